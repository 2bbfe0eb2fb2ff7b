/- Proved: for every config, every list of things told and every 64-bit integer the law ViewOfs returns true: view.Of answers what promise P13.1 says. Conditions: none. -/
import Derived.Test.YtlmiomfbpeondanRows
import Derived.WalkKit
import Derived.ProofKit
import Derived.OpenShut
import Derived.WalkSmall
import Derived.ShutString
import Derived.ChangeOld
import Derived.Below
import Derived.SizedLaws
import Derived.Test.YtlmiomfbpeondanVr
import Derived.Test.YtlmiomfbpeondanVsl
import Derived.Test.YtlmiomfbpeondanVt
import Derived.Test.YtlmiomfbpeondanQo
namespace Go.Proofs.Ytlmiomfbpeondan
namespace viewOfs
open Go.ChangeShapes Go.WideShapes Go.ChangeAt Go.RowKit Vi
set_option linter.unusedVariables false

theorem own : ownKnob Try.prog.godebug = none := by kernel_rfl
theorem laidOut : laidOutB Try.prog = true := by kernel_rfl

set_option maxHeartbeats 8000000 in
set_option maxRecDepth 100000 in
theorem walk (w : World) (c0 : Plain.Cf) (lv0 mv0 : Value) (i0 : CfI w c0 lv0 mv0) (q1 : Option Addr) (c1 : Nat) (l1 : List RT) (s1 : InT w q1 l1) (a2 : Int) (w2 : -9223372036854775808 ≤ a2 ∧ a2 ≤ 9223372036854775807) :
    Calls Try.prog 3 #[cfV c0 lv0 mv0, .slice q1 l1.length c1, .int .i64 a2] w fun e w' => e = .returned (.bool true) ∧ Below w.heap.size w w' := by
  have bA := hid (show Below w.heap.size w (w.alloc (boxC c0 lv0 mv0)) from (Below.refl _ _).alloc (Nat.le_refl _) _)
  have HC := hid (CellC.start w c0 lv0 mv0)
  have I1 := hid (i0.grow bA.out)
  have S1 := hid (s1.grow bA.out)
  have KO := hid (fun W (I : CfI W c0 lv0 mv0) (S : InT W q1 l1) => of_any c0 lv0 mv0 q1 c1 l1 a2 w2.1 w2.2 W I S)
  have KR := hid (fun W (I : CfI W c0 lv0 mv0) (S : InT W q1 l1) => rof_any c0 lv0 mv0 q1 c1 l1 a2 W I S)
  have HL := hid (fun D : List RT => view_len c0 a2 l1 s1 D)
  clear i0 s1 w2
  obtain ⟨lp, lc, rfl⟩ := seg_len I1.out.sl
  obtain ⟨mp, mc, rfl⟩ := seg_len I1.out.sm
  obtain ⟨cn, ls, ct, ms, ccap⟩ := c0
  dsimp only at *
  generalize hE : viewE ⟨cn, ls, ct, ms, ccap⟩ a2 = E at *
  generalize hV : viewV ⟨cn, ls, ct, ms, ccap⟩ a2 (l1.map (·.x)) = V at *
  clear hE hV
  generalize hn : l1.length = n at *
  clear hn
  go_enter Try.func3, Try.ntmps3
  go_wp2_with fail
  refine (KO.out _ I1.out S1.out).mono ?_
  rintro e w1 ⟨p1, cc1, D1, rfl, hx1, ho1, hb⟩
  have B1 := hid (bA.out.trans (hb.mono bA.out.size))
  have C1 := hid (HC.out.below hb HC.out.lt)
  have I2 := hid (I1.out.grow hb)
  have S2 := hid (S1.out.grow hb)
  have O1 := hid ho1
  have X1 := hid hx1
  clear hb ho1 hx1
  obtain ⟨e0, e1, e2, e3, e4⟩ := C1.out
  generalize hd1 : D1.length = d1 at *
  have HD1 := hid hd1
  clear hd1
  go_wp2_with fail
  refine (KR.out _ I2.out S2.out).mono ?_
  rintro e w2 ⟨p2, cc2, D2, rfl, hx2, ho2, hb⟩
  have B2 := hid (B1.out.trans (hb.mono B1.out.size))
  have O2 := hid ho2
  have O3 := hid (O1.out.grow hb)
  have X2 := hid hx2
  have hlen : D2.length = d1 := by
    have := congrArg List.length (X1.out.trans X2.out.symm)
    rw [List.length_map, List.length_map] at this
    rw [← HD1.out]; exact this.symm
  rw [hlen]
  clear hb ho2 hx2 hlen e0 e1 e2 e3 e4
  have KS := sameTolds_c D1 D2 d1 HD1.out (by have := (HL.out D1 X1.out).1; rw [HD1.out] at this; exact this) (X1.out.trans X2.out.symm) (HL.out D1 X1.out).2 p1 p2 cc1 cc2 w2 O3.out O2.out
  go_wp2_with fail
  refine KS.mono ?_
  rintro e w3 ⟨rfl, hb⟩
  have B3 := hid (B2.out.trans (hb.mono B2.out.size))
  clear hb KS
  go_wp2
  go_ret
  exact ⟨rfl, B3.out⟩

set_option maxRecDepth 100000 in
theorem lifted (os : Os) (started : os.Started) (H : Type) (enc : TypeId × Value → H) :
    ReturnsInHanded {} Try.checked os 3 .any (Rows.viewOfsSpec.pre6 enc Try.prog Try.f3 Rows.viewOfsRow.domain false) (Rows.viewOfsSpec.post enc Try.prog Try.f3 false true false false) := by
  refine returnsInHanded_of_change_sized (C := Try.checked) own started (by kernel_rfl) Try.func3
    (ChangeSpec.witness6 (enc := enc) (C := Try.checked) false ⟨#[], #[.agg #[.int .i64 0, .slice none 0 0, .int .i64 0, .slice none 0 0, .int .i64 0], .slice none 0 0, .int .i64 0], []⟩ 8 (by kernel_rfl) (by kernel_rfl) (by kernel_rfl) (by kernel_rfl)) ?_
  intro W base args ds gs before hval0 hW hcnd hwt _
  have hval : ∀ (j : Nat) t v, Try.f3.params[j]? = some t → args[j]? = some v → Value.okWide Try.prog W .any base t v := hval0
  have hW' := hW
  obtain ⟨p, q, hA0, hV, rfl, hfz, hnd⟩ := hW
  have hA : DataW.TrodAll enc Try.prog W 0 (fun _ => true) true Try.f3.params.toList args.toList ds p := hA0
  rw [Try.params3] at hA hval
  obtain ⟨v0, vs0, d0, ds0, p0, q0, hargs, rfl, rfl, h0, r0⟩ := trodAll_cons hA
  obtain ⟨v1, vs1, d1, ds1, p1, q1, rfl, rfl, rfl, h1, r1⟩ := trodAll_cons r0
  obtain ⟨v2, vs2, d2, ds2, p2, q2, rfl, rfl, rfl, h2, r2⟩ := trodAll_cons r1
  obtain ⟨rfl, rfl, rfl⟩ := trodAll_nil r2
  obtain rfl : args = #[v0, v1, v2] := by cases args; simp_all
  obtain ⟨rfl, rfl⟩ := trodVars_none hV
  have k0 := h0
  have lt0 : ∀ x ∈ p0, x.block < W.heap.size := by obtain ⟨m, hm⟩ := k0; exact DataW.trod_lt m _ _ _ hm
  obtain ⟨c0, lv0, mv0, rfl, i0, _, _, _⟩ := cf_open Try.underlying24 (by kernel_rfl) ⟨rfl, rfl⟩ ⟨rfl, rfl⟩ ⟨rfl, rfl⟩ ⟨rfl, rfl⟩ ⟨rfl, rfl⟩ Try.underlying22 (by kernel_rfl) Try.underlying3 (by kernel_rfl) (hval 0 24 v0 rfl rfl) h0
  obtain ⟨a1, len1, cap1, rfl⟩ := okWide_slice Try.underlying25 (hval 1 25 v1 rfl rfl)
  have k1 := h1
  have lt1 : ∀ x ∈ p1, x.block < W.heap.size := by obtain ⟨m, hm⟩ := k1; exact DataW.trod_lt m _ _ _ hm
  have hwt1 : ∀ n ∈ DataW.weights Try.prog 25 d1, n ≤ 140737488355328 := fun n hn => by
    have := List.all_eq_true.1 hwt n (DataW.weights_mem_each (j := 1) (t := 25) rfl rfl n hn)
    have h2 : n ≤ reachBytes := by simpa using this
    exact Nat.le_trans h2 (by decide)
  obtain ⟨l1, rfl, s1⟩ := tolds_open h1 hwt1
  have k2 := h2
  have lt2 : ∀ x ∈ p2, x.block < W.heap.size := by obtain ⟨m, hm⟩ := k2; exact DataW.trod_lt m _ _ _ hm
  obtain ⟨a2, rfl, _, _, w2⟩ := open_int Try.underlying3 (hval 2 3 v2 rfl rfl) h2
  clear hA0 hval0
  refine (walk W c0 lv0 mv0 i0 _ cap1 l1 s1 a2 (bounds_i64 w2)).mono fun e W' ⟨he, bel⟩ => ?_
  subst he
  exact ⟨_, rfl, _, _, _, [], _, [], hW', trodAll_mk1 (shut_bool Try.underlying4 _), (trodAll_cons_mk (Below.trod laidOut (by kernel_rfl) (of_decide_eq_true (by kernel_rfl)) k0 bel lt0) (trodAll_cons_mk (Below.trod laidOut (by kernel_rfl) (of_decide_eq_true (by kernel_rfl)) k1 bel lt1) (trodAll_cons_mk (Below.trod laidOut (by kernel_rfl) (of_decide_eq_true (by kernel_rfl)) k2 bel lt2) trodAll_mk0))), rfl, bel.frame _, fun h => by cases h⟩

theorem over : Rows.viewOfsRow.holds Try.pinned (OpenSpec.ofChange Rows.viewOfsSpec) :=
  OpenClaim.holds_of_wide 3 Try.f3 rfl rfl rfl rfl rfl rfl rfl ⟨rfl, rfl, rfl, rfl, rfl⟩ rfl rfl rfl rfl rfl (by kernel_rfl) Try.func3 (by kernel_rfl)
    (of_decide_eq_true (by kernel_rfl)) (by unfold Func.isWrapper; first | (rw [if_pos (by decide +kernel)]; kernel_rfl) | (rw [if_neg (by decide +kernel)]; exact ⟨rfl, rfl⟩))
    (fun os started H enc _ => lifted os started H enc)

end viewOfs

theorem viewOfs_holds : Rows.ViewOfsSaid := viewOfs.over
#print axioms viewOfs_holds
end Go.Proofs.Ytlmiomfbpeondan
