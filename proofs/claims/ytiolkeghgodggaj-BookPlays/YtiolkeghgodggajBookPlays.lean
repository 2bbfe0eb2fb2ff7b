/- BookPlays: of whatever numbers of branches, caps, ticks and calls book.Play and the document's BookPlayed tell the same, call by call: the error, the codes, the grants and the reports. No condition. -/
import Derived.Test.YtiolkeghgodggajRows
import Derived.WalkKit
import Derived.ProofKit
import Derived.OpenShut
import Derived.WalkSmall
import Derived.ShutString
import Derived.ChangeOld
import Derived.Below
import Derived.Test.YtiolkeghgodggajY9
import Derived.Test.YtiolkeghgodggajXg
import Derived.Test.YtiolkeghgodggajHl
import Derived.Test.YtiolkeghgodggajXc
namespace Go.Proofs.Ytiolkeghgodggaj
namespace bookPlays
open Go.ChangeShapes Go.WideShapes Go.ChangeAt Go.RowKit Bo
set_option linter.unusedVariables false

theorem own : ownKnob Try.prog.godebug = none := by kernel_rfl
theorem laidOut : laidOutB Try.prog = true := by kernel_rfl

set_option maxHeartbeats 4000000 in
set_option maxRecDepth 100000 in
theorem walk (w : World) (a0 : Int) (w0 : -9223372036854775808 ≤ a0 ∧ a0 ≤ 9223372036854775807) (a1 : Int) (w1 : -9223372036854775808 ≤ a1 ∧ a1 ≤ 9223372036854775807) (a2 : Int) (w2 : -9223372036854775808 ≤ a2 ∧ a2 ≤ 9223372036854775807) (v3 : Value) (l3 : List Plain.Ca) (s3 : SegC w v3 l3) (r3 : ∀ j, j < l3.length → InC (l3.getD j default)) :
    Calls Try.prog 4 #[.int .i64 a0, .int .i64 a1, .int .i64 a2, v3] w fun e w' => e = .returned (.bool true) ∧ Below w.heap.size w w' := by
  obtain ⟨hm0, p, cap, rfl, hp⟩ := s3
  have K1 := play_c p l3.length cap a0 a1 a2 l3 hm0 w rfl hp
  have K2 := fun W (g : Below w.heap.size w W) => rplay_c p l3.length cap a0 a1 a2 l3 hm0 W rfl (hp.grow g)
  clear hp r3
  have hvl : (Plain.bookV a0 a1 a2 l3).length ≤ 300 := by
    unfold Plain.bookV
    by_cases h : Plain.bookE a0 a1 a2 l3 ≠ 0
    · rw [if_pos h]; simp
    · rw [if_neg h, Plain.bookF_len]
      unfold Plain.bookE at h
      have hx : ¬ (((a0 < 1 ∨ 8 < a0) ∨ (a1 < 0 ∨ 1048576 < a1)) ∨ (a2 < 1 ∨ 8 < a2)) := fun x => h (by rw [if_pos x]; decide)
      rw [if_neg hx] at h
      by_cases y : 300 < l3.length
      · rw [if_pos y] at h; omega
      · omega
  have hgr : ∀ r, r ∈ Plain.bookV a0 a1 a2 l3 → r.grants.length ≤ 1000 := by
    unfold Plain.bookV
    split
    · intro r hr; simp at hr
    · rename_i h
      intro r hr
      exact Plain.bookF_grants (by
        unfold Plain.bookE at h
        have hx : ¬ (((a0 < 1 ∨ 8 < a0) ∨ (a1 < 0 ∨ 1048576 < a1)) ∨ (a2 < 1 ∨ 8 < a2)) := fun x => h (by rw [if_pos x]; decide)
        exact Plain.Ok.new (by omega) (by omega)) (by
        unfold Plain.bookE at h
        have hx : ¬ (((a0 < 1 ∨ 8 < a0) ∨ (a1 < 0 ∨ 1048576 < a1)) ∨ (a2 < 1 ∨ 8 < a2)) := fun x => h (by rw [if_pos x]; decide)
        show a0.toNat ≤ 1000
        omega) l3 r hr
  generalize hV : Plain.bookV a0 a1 a2 l3 = V at *
  have HV := hid hV
  clear hV
  have HG := hid hgr
  clear hgr
  go_enter Try.func4, Try.ntmps4
  go_wp2_with fail
  refine K1.mono ?_
  rintro e W1 ⟨q1, c1, D1, rfl, h1, a1', b1⟩
  have H1 := hid h1
  have A1 := hid a1'
  have B1 := hid b1
  clear h1 b1 a1' K1
  go_wp2_with fail
  refine (K2 _ B1.out).mono ?_
  rintro e W2 ⟨q2, c2, D2, rfl, h2, a2', b2⟩
  have H2 := hid h2
  have A2 := hid a2'
  have A12 := hid (A1.out.grow b2)
  have B2 := hid (B1.out.trans (b2.mono B1.out.size))
  clear h2 a2' b2 K2 A1 B1
  have hl1 : D1.length = V.length := by rw [← HV.out, ← H1.out, List.length_map]
  have hl2 : D2.length = V.length := by rw [← HV.out, ← H2.out, List.length_map]
  have HL1 := hid hl1
  have HL2 := hid hl2
  generalize Plain.bookE a0 a1 a2 l3 = E at *
  generalize hn : V.length = n at *
  rw [hl1, hl2]
  clear hl1 hl2
  have HN := hid hn
  clear hn
  have he : ((E : Int) != (E : Int)) = false := by simp
  have hnn : ((n : Int) != (n : Int)) = false := by simp
  go_wp2
  clear he hnn
  go_loopg [13] n (fun gg s7 wx => ∃ k : Nat, k ≤ n ∧ n - k ≤ gg ∧ s7 = .int .i64 k ∧ Aside (∃ q, wx = W2.drewN q))
  case atStart => exact ⟨0, Nat.zero_le _, by omega, rfl, (show Aside _ from ⟨0, rfl⟩)⟩
  case round =>
    obtain ⟨k, hkk, hg, rfl, I⟩ := hrel
    by_cases hlt : k < n
    · have hltz : (k : Int) < (n : Int) := by omega
      have hk1 : k < D1.length := by rw [HL1.out]; exact hlt
      have hk2 : k < D2.length := by rw [HL2.out]; exact hlt
      obtain ⟨b1, o1, rfl, _, g1⟩ := holdsU A12.out.hd (by omega)
      obtain ⟨b2, o2, rfl, _, g2⟩ := holdsU A2.out.hd (by omega)
      obtain ⟨q, hq⟩ := I.out
      obtain ⟨x0, x1, x2⟩ := (g1 k hk1).drewN q
      obtain ⟨y0, y1, y2⟩ := (g2 k hk2).drewN q
      rw [← hq] at x0 x1 x2 y0 y1 y2
      have e1 : (D1.getD k default).d = (D2.getD k default).d := by
        rw [← getD_map RU.d D1 default default hk1, ← getD_map RU.d D2 default default hk2, H1.out, H2.out]
      have hgl : (D1.getD k default).d.grants.length ≤ 1000 := HG.out _ (by rw [← getD_map RU.d D1 default default hk1, H1.out, HV.out]; exact getD_mem _ _ (by rw [HN.out]; exact hlt))
      have yb1 := A12.out.bs _ (getD_mem D1 default hk1)
      have yb2 := A2.out.bs _ (getD_mem D2 default hk2)
      have HQ := hid hq
      clear g1 g2 hq
      generalize D1.getD k default = z1 at x0 x1 x2 e1 yb1 hgl
      generalize D2.getD k default = z2 at y0 y1 y2 e1 yb2
      obtain ⟨⟨za, zb, zc⟩, zp, zq⟩ := z1
      obtain ⟨z2d, yp, yq⟩ := z2
      dsimp only at e1
      subst e1
      dsimp only at x0 x1 x2 y0 y1 y2 yb1 yb2 hgl
      have K := fun t => law.same_any (.slice zp zb.length zq) (.slice yp zb.length yq) zb zb (by omega) (wr.drewN t) (by rw [HQ.out, drewN_add]; exact ((yb1.wants.drew (q + t)).seg zq).1) (by rw [HQ.out, drewN_add]; exact ((yb2.wants.drew (q + t)).seg yq).1)
      rw [decide_eq_true rfl] at K
      clear yb1 yb2
      generalize zb.length = m at *
      have n0 : ((za : Int) != (za : Int)) = false := by simp
      have n2 : (zc != zc) = false := by simp
      go_wp2
      go_quiet ((go_at_call 16; exact Calls.quiet_of (K _)))
      go_wp2
      go_roundg (n - (k + 1))
      case measure => omega
      case rel => exact ⟨k + 1, by omega, by omega, by go_num, (show Aside _ from ⟨_, by rw [HQ.out, drewN_add]⟩)⟩
    · have hltz : ¬ (k : Int) < (n : Int) := by omega
      obtain ⟨q, hq⟩ := I.out
      have F := hid (show Below w.heap.size w wr by rw [hq]; exact below_drewN B2.out q)
      clear hq I
      go_wp2
      go_ret
      exact ⟨rfl, F.out⟩

set_option maxRecDepth 100000 in
theorem lifted (os : Os) (started : os.Started) (H : Type) (enc : TypeId × Value → H) :
    ReturnsInHanded {} Try.checked os 4 .any (Rows.bookPlaysSpec.pre6 enc Try.prog Try.f4 Rows.bookPlaysRow.domain false) (Rows.bookPlaysSpec.post enc Try.prog Try.f4 false true false false) := by
  refine returnsInHanded_of_change (C := Try.checked) own started (by kernel_rfl) Try.func4
    (ChangeSpec.witness6 (enc := enc) (C := Try.checked) false ⟨#[], #[.int .i64 0, .int .i64 0, .int .i64 0, .slice none 0 0], []⟩ 8 (by kernel_rfl) (by kernel_rfl) (by kernel_rfl) (by kernel_rfl)) ?_
  intro W base args ds gs before hval0 hW hcnd _
  have hval : ∀ (j : Nat) t v, Try.f4.params[j]? = some t → args[j]? = some v → Value.okWide Try.prog W .any base t v := hval0
  have hW' := hW
  obtain ⟨p, q, hA0, hV, rfl, hfz, hnd⟩ := hW
  have hA : DataW.TrodAll enc Try.prog W 0 (fun _ => true) true Try.f4.params.toList args.toList ds p := hA0
  rw [Try.params4] at hA hval
  obtain ⟨v0, vs0, d0, ds0, p0, q0, hargs, rfl, rfl, h0, r0⟩ := trodAll_cons hA
  obtain ⟨v1, vs1, d1, ds1, p1, q1, rfl, rfl, rfl, h1, r1⟩ := trodAll_cons r0
  obtain ⟨v2, vs2, d2, ds2, p2, q2, rfl, rfl, rfl, h2, r2⟩ := trodAll_cons r1
  obtain ⟨v3, vs3, d3, ds3, p3, q3, rfl, rfl, rfl, h3, r3⟩ := trodAll_cons r2
  obtain ⟨rfl, rfl, rfl⟩ := trodAll_nil r3
  obtain rfl : args = #[v0, v1, v2, v3] := by cases args; simp_all
  obtain ⟨rfl, rfl⟩ := trodVars_none hV
  have k0 := h0
  have lt0 : ∀ x ∈ p0, x.block < W.heap.size := by obtain ⟨m, hm⟩ := k0; exact DataW.trod_lt m _ _ _ hm
  obtain ⟨a0, rfl, _, _, w0⟩ := open_int Try.underlying3 (hval 0 3 v0 rfl rfl) h0
  have k1 := h1
  have lt1 : ∀ x ∈ p1, x.block < W.heap.size := by obtain ⟨m, hm⟩ := k1; exact DataW.trod_lt m _ _ _ hm
  obtain ⟨a1, rfl, _, _, w1⟩ := open_int Try.underlying3 (hval 1 3 v1 rfl rfl) h1
  have k2 := h2
  have lt2 : ∀ x ∈ p2, x.block < W.heap.size := by obtain ⟨m, hm⟩ := k2; exact DataW.trod_lt m _ _ _ hm
  obtain ⟨a2, rfl, _, _, w2⟩ := open_int Try.underlying3 (hval 2 3 v2 rfl rfl) h2
  obtain ⟨a3, len3, cap3, rfl⟩ := okWide_slice Try.underlying39 (hval 3 39 v3 rfl rfl)
  have k3 := h3
  have lt3 : ∀ x ∈ p3, x.block < W.heap.size := by obtain ⟨m, hm⟩ := k3; exact DataW.trod_lt m _ _ _ hm
  obtain ⟨l3, s3, ri3⟩ := cas_open Try.underlying39 Try.underlying52 (by kernel_rfl) ⟨rfl, by intro j f hj; rcases j with _ | _ | _ | j <;> simp at hj <;> subst hj <;> exact ⟨rfl, by kernel_rfl, Try.underlying3⟩⟩ h3
  clear hA0 hval0
  refine (walk W a0 (bounds_i64 w0) a1 (bounds_i64 w1) a2 (bounds_i64 w2) _ l3 s3 ri3).mono fun e W' ⟨he, bel⟩ => ?_
  subst he
  exact ⟨_, rfl, _, _, _, [], _, [], hW', trodAll_mk1 (shut_bool Try.underlying4 _), (trodAll_cons_mk (Below.trod laidOut (by kernel_rfl) (of_decide_eq_true (by kernel_rfl)) k0 bel lt0) (trodAll_cons_mk (Below.trod laidOut (by kernel_rfl) (of_decide_eq_true (by kernel_rfl)) k1 bel lt1) (trodAll_cons_mk (Below.trod laidOut (by kernel_rfl) (of_decide_eq_true (by kernel_rfl)) k2 bel lt2) (trodAll_cons_mk (Below.trod laidOut (by kernel_rfl) (of_decide_eq_true (by kernel_rfl)) k3 bel lt3) trodAll_mk0)))), rfl, bel.frame _, fun h => by cases h⟩

theorem over : Rows.bookPlaysRow.holds Try.pinned (OpenSpec.ofChange Rows.bookPlaysSpec) :=
  OpenClaim.holds_of_wide 4 Try.f4 rfl rfl rfl rfl rfl rfl rfl ⟨rfl, rfl, rfl, rfl, rfl⟩ rfl rfl rfl rfl rfl (by kernel_rfl) Try.func4 (by kernel_rfl)
    (of_decide_eq_true (by kernel_rfl)) (by unfold Func.isWrapper; first | (rw [if_pos (by decide +kernel)]; kernel_rfl) | (rw [if_neg (by decide +kernel)]; exact ⟨rfl, rfl⟩))
    (fun os started H enc _ => lifted os started H enc)

end bookPlays

theorem bookPlays_holds : Rows.BookPlaysSaid := bookPlays.over
#print axioms bookPlays_holds
end Go.Proofs.Ytiolkeghgodggaj
