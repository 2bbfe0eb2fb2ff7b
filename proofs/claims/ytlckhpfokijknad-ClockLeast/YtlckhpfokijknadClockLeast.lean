/- Proved: at every three lists of 64-bit integers the law ClockLeast returns true: what is joined is not behind, no less clock is so, and joining goes in any way. Conditions: none. -/
import Derived.Test.YtlckhpfokijknadRows
import Derived.WalkKit
import Derived.ProofKit
import Derived.OpenShut
import Derived.WalkSmall
import Derived.Test.YtlckhpfokijknadKh
import Derived.ShutString
import Derived.ChangeOld
import Derived.Below
namespace Go.Proofs.Ytlckhpfokijknad
namespace clockLeast
open Go.ChangeShapes Go.WideShapes Go.ChangeAt Go.RowKit
open Go.ChangeMaps (open_string shut_string)
set_option linter.unusedVariables false

theorem own : ownKnob Try.prog.godebug = none := by kernel_rfl
theorem laidOut : laidOutB Try.prog = true := by kernel_rfl

/-- WHAT THE WALK IS TOLD OF A SLICE OF INTEGERS THAT CAME IN: it is nil; or it leads to a row of 'cap' cells, the numbers 'zs' (the first 'len' are its elements, the rest its spare room), each fitting its kind. -/
def IsRow (k : IntKind) (w : World) (a : Option Addr) (len cap : Nat) (zs : List Int) : Prop :=
  (a = none ∧ len = 0 ∧ cap = 0 ∧ zs = []) ∨
  ∃ x, a = some x ∧ len ≤ cap ∧ cap ≤ maxLen ∧ zs.length = cap ∧ (∀ i, i < zs.length → w.cell? (x.add i) = some (.int k (zs.getD i 0))) ∧ ∀ n ∈ zs, (Lit.int k n).wf = true

set_option maxHeartbeats 4000000 in
theorem walk (a0 : Option Addr) (len0 cap0 : Nat) (z0 : List Int) (a1 : Option Addr) (len1 cap1 : Nat) (z1 : List Int) (a2 : Option Addr) (len2 cap2 : Nat) (z2 : List Int) (w : World) (w0 : IsRow .i64 w a0 len0 cap0 z0) (w1 : IsRow .i64 w a1 len1 cap1 z1) (w2 : IsRow .i64 w a2 len2 cap2 z2) :
    Calls Try.prog 8 #[.slice a0 len0 cap0, .slice a1 len1 cap1, .slice a2 len2 cap2] w fun e w' => e = .returned (.bool true) ∧ Below w.heap.size w w' := by
  obtain ⟨l, hl, _, hcap, hw1, hli, hseg⟩ := row_seg w0
  obtain ⟨m, hm, _, hcap', hw2, hli', hseg'⟩ := row_seg w1
  obtain ⟨n, hn, _, hcap2, hw3, hli2, hseg2⟩ := row_seg w2
  subst hl hm hn
  have H := hid hseg
  have H' := hid hseg'
  have H2 := hid hseg2
  have HL := hid hli
  have HL' := hid hli'
  have HL2 := hid hli2
  have W1 := hid hw1
  have W2 := hid hw2
  have W3 := hid hw3
  clear hseg hli w0 hseg' hli' w1 hseg2 hli2 w2 hw1 hw2 hw3
  go_enter Try.func8, Try.ntmps8
  go_wp2_with fail
  refine (hclock _ l W1.out (by omega) _ H.out HL.out).mono ?_
  rintro e v1 ⟨pa, rfl, r1, b1⟩
  have HA := hid r1
  have B1 := hid b1
  clear r1 b1
  go_wp2_with fail
  refine (hclock _ m W2.out (by omega) _ (H'.out.below B1.out HL'.out) (HL'.out.mono B1.out.size)).mono ?_
  rintro e v2 ⟨pb, rfl, r2, b2⟩
  have HB := hid r2
  have B2 := hid b2
  replace HA := hid (HA.out.keep b2)
  clear r2 b2
  go_wp2_with fail
  refine (hclock _ n W3.out (by omega) _ ((H2.out.below B1.out HL2.out).below B2.out (HL2.out.mono B1.out.size)) ((HL2.out.mono B1.out.size).mono B2.out.size)).mono ?_
  rintro e v3 ⟨pc, rfl, r3, b3⟩
  have HC := hid r3
  replace HA := hid (HA.out.keep b3)
  replace HB := hid (HB.out.keep b3)
  have BW := hid (keeps (keeps B1.out B2.out) b3)
  clear r3 b3 B1 B2 H H' H2 HL HL' HL2 W1 W2 W3
  generalize Plain.clk l = a at HA
  generalize Plain.clk m = b at HB
  generalize Plain.clk n = c at HC
  have FA := hid HA.out.fit
  have FB := hid HB.out.fit
  have FC := hid HC.out.fit
  have hl1 := Plain.join_least FA.out FB.out FC.out
  have hu1 := Plain.join_up FA.out FB.out
  have hu2 := Plain.join_up2 FA.out FB.out
  generalize hs1 : Plain.oV a c = s1 at hl1
  generalize hs2 : Plain.oV b c = s2 at hl1
  generalize hs3 : Plain.oV (Plain.joinL a b) c = s3 at hl1
  generalize hs4 : Plain.oV a (Plain.joinL a b) = s4 at hu1
  generalize hs5 : Plain.oV b (Plain.joinL a b) = s5 at hu2
  have S1 := hid hs1
  have S2 := hid hs2
  have S3 := hid hs3
  have S4 := hid hs4
  have S5 := hid hs5
  have L1 := hid hl1
  have U1 := hid hu1
  have U2 := hid hu2
  clear hs1 hs2 hs3 hs4 hs5 hl1 hu1 hu2
  go_wp2_with fail
  refine (hjoin _ _ _ _ _ HA.out HB.out).mono ?_
  rintro e v4 ⟨pab, rfl, r4, b4⟩
  replace HA := hid (HA.out.keep b4)
  replace HB := hid (HB.out.keep b4)
  replace HC := hid (HC.out.keep b4)
  replace BW := hid (keeps BW.out b4)
  have HAB := hid r4
  clear r4 b4
  go_wp2_with fail
  refine (hjoin _ _ _ _ _ HB.out HA.out).mono ?_
  rintro e v5 ⟨pba, rfl, r5, b5⟩
  replace HA := hid (HA.out.keep b5)
  replace HB := hid (HB.out.keep b5)
  replace HC := hid (HC.out.keep b5)
  replace HAB := hid (HAB.out.keep b5)
  replace BW := hid (keeps BW.out b5)
  have HBA := hid r5
  clear r5 b5
  go_wp2_with fail
  refine (hjoin _ _ _ _ _ HB.out HC.out).mono ?_
  rintro e v6 ⟨pbc, rfl, r6, b6⟩
  replace HA := hid (HA.out.keep b6)
  replace HB := hid (HB.out.keep b6)
  replace HC := hid (HC.out.keep b6)
  replace HAB := hid (HAB.out.keep b6)
  replace HBA := hid (HBA.out.keep b6)
  replace BW := hid (keeps BW.out b6)
  have HBC := hid r6
  clear r6 b6
  go_wp2_with fail
  refine (hsame _ _ _ _ _ HAB.out HBA.out (Plain.join_comm FA.out FB.out)).mono ?_
  rintro e v7 ⟨rfl, b7⟩
  replace HA := hid (HA.out.keep b7)
  replace HB := hid (HB.out.keep b7)
  replace HC := hid (HC.out.keep b7)
  replace HAB := hid (HAB.out.keep b7)
  replace HBA := hid (HBA.out.keep b7)
  replace HBC := hid (HBC.out.keep b7)
  replace BW := hid (keeps BW.out b7)
  clear b7
  go_wp2_with fail
  refine (hjoin _ _ _ _ _ HAB.out HC.out).mono ?_
  rintro e v8 ⟨px, rfl, r8, b8⟩
  replace HA := hid (HA.out.keep b8)
  replace HB := hid (HB.out.keep b8)
  replace HC := hid (HC.out.keep b8)
  replace HAB := hid (HAB.out.keep b8)
  replace HBA := hid (HBA.out.keep b8)
  replace HBC := hid (HBC.out.keep b8)
  replace BW := hid (keeps BW.out b8)
  have HX := hid r8
  clear r8 b8
  go_wp2_with fail
  refine (hjoin _ _ _ _ _ HA.out HBC.out).mono ?_
  rintro e v9 ⟨py, rfl, r9, b9⟩
  replace HA := hid (HA.out.keep b9)
  replace HB := hid (HB.out.keep b9)
  replace HC := hid (HC.out.keep b9)
  replace HAB := hid (HAB.out.keep b9)
  replace HBA := hid (HBA.out.keep b9)
  replace HBC := hid (HBC.out.keep b9)
  replace HX := hid (HX.out.keep b9)
  replace BW := hid (keeps BW.out b9)
  have HY := hid r9
  clear r9 b9
  go_wp2_with fail
  refine (hjoin _ _ _ _ _ HA.out HA.out).mono ?_
  rintro e v10 ⟨pz, rfl, r10, b10⟩
  replace HA := hid (HA.out.keep b10)
  replace HB := hid (HB.out.keep b10)
  replace HC := hid (HC.out.keep b10)
  replace HAB := hid (HAB.out.keep b10)
  replace HBA := hid (HBA.out.keep b10)
  replace HBC := hid (HBC.out.keep b10)
  replace HX := hid (HX.out.keep b10)
  replace HY := hid (HY.out.keep b10)
  replace BW := hid (keeps BW.out b10)
  have HZ := hid r10
  clear r10 b10
  go_wp2_with fail
  refine (hsame _ _ _ _ _ HX.out HY.out (Plain.join_assoc FA.out FB.out FC.out)).mono ?_
  rintro e v11 ⟨rfl, b11⟩
  replace HA := hid (HA.out.keep b11)
  replace HB := hid (HB.out.keep b11)
  replace HC := hid (HC.out.keep b11)
  replace HAB := hid (HAB.out.keep b11)
  replace HBA := hid (HBA.out.keep b11)
  replace HBC := hid (HBC.out.keep b11)
  replace HX := hid (HX.out.keep b11)
  replace HY := hid (HY.out.keep b11)
  replace HZ := hid (HZ.out.keep b11)
  replace BW := hid (keeps BW.out b11)
  clear b11
  go_wp2_with fail
  refine (hsame _ _ _ _ _ HZ.out HA.out (Plain.join_self FA.out)).mono ?_
  rintro e v12 ⟨rfl, b12⟩
  replace HA := hid (HA.out.keep b12)
  replace HB := hid (HB.out.keep b12)
  replace HC := hid (HC.out.keep b12)
  replace HAB := hid (HAB.out.keep b12)
  replace HBA := hid (HBA.out.keep b12)
  replace HBC := hid (HBC.out.keep b12)
  replace HX := hid (HX.out.keep b12)
  replace HY := hid (HY.out.keep b12)
  replace HZ := hid (HZ.out.keep b12)
  replace BW := hid (keeps BW.out b12)
  clear b12
  clear HBA HBC HX HY HZ
  by_cases c1 : s1 ≤ 0
  · go_wp2_with fail
    refine (horder _ _ _ _ _ HA.out HC.out).mono ?_
    rintro e v13 ⟨rfl, b13⟩
    rw [S1.out]
    replace HA := hid (HA.out.keep b13)
    replace HB := hid (HB.out.keep b13)
    replace HC := hid (HC.out.keep b13)
    replace HAB := hid (HAB.out.keep b13)
    replace BW := hid (keeps BW.out b13)
    clear b13
    go_wp2_with fail
    refine (horder _ _ _ _ _ HB.out HC.out).mono ?_
    rintro e v14 ⟨rfl, b14⟩
    rw [S2.out]
    replace HA := hid (HA.out.keep b14)
    replace HB := hid (HB.out.keep b14)
    replace HC := hid (HC.out.keep b14)
    replace HAB := hid (HAB.out.keep b14)
    replace BW := hid (keeps BW.out b14)
    clear b14
    by_cases c2 : s2 ≤ 0
    · have c3 : s3 ≤ 0 := L1.out.2 ⟨c1, c2⟩
      have c4 := U1.out
      have c5 := U2.out
      go_wp2_with fail
      refine (horder _ _ _ _ _ HA.out HAB.out).mono ?_
      rintro e v15 ⟨rfl, b15⟩
      rw [S4.out]
      replace HA := hid (HA.out.keep b15)
      replace HB := hid (HB.out.keep b15)
      replace HC := hid (HC.out.keep b15)
      replace HAB := hid (HAB.out.keep b15)
      replace BW := hid (keeps BW.out b15)
      clear b15
      go_wp2_with fail
      refine (horder _ _ _ _ _ HB.out HAB.out).mono ?_
      rintro e v16 ⟨rfl, b16⟩
      rw [S5.out]
      replace HA := hid (HA.out.keep b16)
      replace HB := hid (HB.out.keep b16)
      replace HC := hid (HC.out.keep b16)
      replace HAB := hid (HAB.out.keep b16)
      replace BW := hid (keeps BW.out b16)
      clear b16
      go_wp2_with fail
      refine (horder _ _ _ _ _ HAB.out HC.out).mono ?_
      rintro e v17 ⟨rfl, b17⟩
      rw [S3.out]
      replace HA := hid (HA.out.keep b17)
      replace HB := hid (HB.out.keep b17)
      replace HC := hid (HC.out.keep b17)
      replace HAB := hid (HAB.out.keep b17)
      replace BW := hid (keeps BW.out b17)
      clear b17
      go_wp2
      go_ret
      exact ⟨ret_bool (by first | rfl | (simp; omega)), BW.out⟩
    · have c3 : ¬ s3 ≤ 0 := fun h => c2 (L1.out.1 h).2
      have c4 := U1.out
      have c5 := U2.out
      go_wp2_with fail
      refine (horder _ _ _ _ _ HA.out HAB.out).mono ?_
      rintro e v15 ⟨rfl, b15⟩
      rw [S4.out]
      replace HA := hid (HA.out.keep b15)
      replace HB := hid (HB.out.keep b15)
      replace HC := hid (HC.out.keep b15)
      replace HAB := hid (HAB.out.keep b15)
      replace BW := hid (keeps BW.out b15)
      clear b15
      go_wp2_with fail
      refine (horder _ _ _ _ _ HB.out HAB.out).mono ?_
      rintro e v16 ⟨rfl, b16⟩
      rw [S5.out]
      replace HA := hid (HA.out.keep b16)
      replace HB := hid (HB.out.keep b16)
      replace HC := hid (HC.out.keep b16)
      replace HAB := hid (HAB.out.keep b16)
      replace BW := hid (keeps BW.out b16)
      clear b16
      go_wp2_with fail
      refine (horder _ _ _ _ _ HAB.out HC.out).mono ?_
      rintro e v17 ⟨rfl, b17⟩
      rw [S3.out]
      replace HA := hid (HA.out.keep b17)
      replace HB := hid (HB.out.keep b17)
      replace HC := hid (HC.out.keep b17)
      replace HAB := hid (HAB.out.keep b17)
      replace BW := hid (keeps BW.out b17)
      clear b17
      go_wp2
      go_ret
      exact ⟨ret_bool (by first | rfl | (simp; omega)), BW.out⟩
  · have c3 : ¬ s3 ≤ 0 := fun h => c1 (L1.out.1 h).1
    have c4 := U1.out
    have c5 := U2.out
    go_wp2_with fail
    refine (horder _ _ _ _ _ HA.out HC.out).mono ?_
    rintro e v13 ⟨rfl, b13⟩
    rw [S1.out]
    replace HA := hid (HA.out.keep b13)
    replace HB := hid (HB.out.keep b13)
    replace HC := hid (HC.out.keep b13)
    replace HAB := hid (HAB.out.keep b13)
    replace BW := hid (keeps BW.out b13)
    clear b13
    go_wp2_with fail
    refine (horder _ _ _ _ _ HA.out HAB.out).mono ?_
    rintro e v14 ⟨rfl, b14⟩
    rw [S4.out]
    replace HA := hid (HA.out.keep b14)
    replace HB := hid (HB.out.keep b14)
    replace HC := hid (HC.out.keep b14)
    replace HAB := hid (HAB.out.keep b14)
    replace BW := hid (keeps BW.out b14)
    clear b14
    go_wp2_with fail
    refine (horder _ _ _ _ _ HB.out HAB.out).mono ?_
    rintro e v15 ⟨rfl, b15⟩
    rw [S5.out]
    replace HA := hid (HA.out.keep b15)
    replace HB := hid (HB.out.keep b15)
    replace HC := hid (HC.out.keep b15)
    replace HAB := hid (HAB.out.keep b15)
    replace BW := hid (keeps BW.out b15)
    clear b15
    go_wp2_with fail
    refine (horder _ _ _ _ _ HAB.out HC.out).mono ?_
    rintro e v16 ⟨rfl, b16⟩
    rw [S3.out]
    replace HA := hid (HA.out.keep b16)
    replace HB := hid (HB.out.keep b16)
    replace HC := hid (HC.out.keep b16)
    replace HAB := hid (HAB.out.keep b16)
    replace BW := hid (keeps BW.out b16)
    clear b16
    go_wp2
    go_ret
    exact ⟨ret_bool (by first | rfl | (simp; omega)), BW.out⟩

set_option maxRecDepth 100000 in
theorem lifted (os : Os) (started : os.Started) (H : Type) (enc : TypeId × Value → H) :
    ReturnsInHanded {} Try.checked os 8 .any (Rows.clockLeastSpec.pre6 enc Try.prog Try.f8 Rows.clockLeastRow.domain false) (Rows.clockLeastSpec.post enc Try.prog Try.f8 false true false false) := by
  refine returnsInHanded_of_change (C := Try.checked) own started (by kernel_rfl) Try.func8
    (ChangeSpec.witness6 (enc := enc) (C := Try.checked) false ⟨#[], #[.slice none 0 0, .slice none 0 0, .slice none 0 0], []⟩ 8 (by kernel_rfl) (by kernel_rfl) (by kernel_rfl) (by kernel_rfl)) ?_
  intro W base args ds gs before hval0 hW hcnd _
  have hval : ∀ (j : Nat) t v, Try.f8.params[j]? = some t → args[j]? = some v → Value.okWide Try.prog W .any base t v := hval0
  have hW' := hW
  obtain ⟨p, q, hA0, hV, rfl, hfz, hnd⟩ := hW
  have hA : DataW.TrodAll enc Try.prog W 0 (fun _ => true) true Try.f8.params.toList args.toList ds p := hA0
  rw [Try.params8] at hA hval
  obtain ⟨v0, vs0, d0, ds0, p0, q0, hargs, rfl, rfl, h0, r0⟩ := trodAll_cons hA
  obtain ⟨v1, vs1, d1, ds1, p1, q1, rfl, rfl, rfl, h1, r1⟩ := trodAll_cons r0
  obtain ⟨v2, vs2, d2, ds2, p2, q2, rfl, rfl, rfl, h2, r2⟩ := trodAll_cons r1
  obtain ⟨rfl, rfl, rfl⟩ := trodAll_nil r2
  obtain rfl : args = #[v0, v1, v2] := by cases args; simp_all
  obtain ⟨rfl, rfl⟩ := trodVars_none hV
  obtain ⟨a0, len0, cap0, rfl⟩ := okWide_slice Try.underlying22 (hval 0 22 v0 rfl rfl)
  have k0 := h0
  have lt0 : ∀ x ∈ p0, x.block < W.heap.size := by obtain ⟨m, hm⟩ := k0; exact DataW.trod_lt m _ _ _ hm
  obtain ⟨z0, w0⟩ : ∃ zs, IsRow .i64 W a0 len0 cap0 zs := by
    obtain ⟨fuel, hf⟩ := h0
    rcases open_ints Try.underlying22 Try.underlying3 (by kernel_rfl) hf with ⟨hcs, _⟩ | ⟨x, l, c, zs, hcs, _, hl, hm, hz, _, hcell, hwz⟩
    · simp [Value.cells] at hcs
      obtain ⟨rfl, rfl, rfl⟩ := hcs
      exact ⟨[], .inl ⟨rfl, rfl, rfl, rfl⟩⟩
    · simp [Value.cells] at hcs
      obtain ⟨rfl, rfl, rfl⟩ := hcs
      exact ⟨zs, .inr ⟨_, rfl, hl, hm, by simpa using hz, hcell, hwz⟩⟩
  obtain ⟨a1, len1, cap1, rfl⟩ := okWide_slice Try.underlying22 (hval 1 22 v1 rfl rfl)
  have k1 := h1
  have lt1 : ∀ x ∈ p1, x.block < W.heap.size := by obtain ⟨m, hm⟩ := k1; exact DataW.trod_lt m _ _ _ hm
  obtain ⟨z1, w1⟩ : ∃ zs, IsRow .i64 W a1 len1 cap1 zs := by
    obtain ⟨fuel, hf⟩ := h1
    rcases open_ints Try.underlying22 Try.underlying3 (by kernel_rfl) hf with ⟨hcs, _⟩ | ⟨x, l, c, zs, hcs, _, hl, hm, hz, _, hcell, hwz⟩
    · simp [Value.cells] at hcs
      obtain ⟨rfl, rfl, rfl⟩ := hcs
      exact ⟨[], .inl ⟨rfl, rfl, rfl, rfl⟩⟩
    · simp [Value.cells] at hcs
      obtain ⟨rfl, rfl, rfl⟩ := hcs
      exact ⟨zs, .inr ⟨_, rfl, hl, hm, by simpa using hz, hcell, hwz⟩⟩
  obtain ⟨a2, len2, cap2, rfl⟩ := okWide_slice Try.underlying22 (hval 2 22 v2 rfl rfl)
  have k2 := h2
  have lt2 : ∀ x ∈ p2, x.block < W.heap.size := by obtain ⟨m, hm⟩ := k2; exact DataW.trod_lt m _ _ _ hm
  obtain ⟨z2, w2⟩ : ∃ zs, IsRow .i64 W a2 len2 cap2 zs := by
    obtain ⟨fuel, hf⟩ := h2
    rcases open_ints Try.underlying22 Try.underlying3 (by kernel_rfl) hf with ⟨hcs, _⟩ | ⟨x, l, c, zs, hcs, _, hl, hm, hz, _, hcell, hwz⟩
    · simp [Value.cells] at hcs
      obtain ⟨rfl, rfl, rfl⟩ := hcs
      exact ⟨[], .inl ⟨rfl, rfl, rfl, rfl⟩⟩
    · simp [Value.cells] at hcs
      obtain ⟨rfl, rfl, rfl⟩ := hcs
      exact ⟨zs, .inr ⟨_, rfl, hl, hm, by simpa using hz, hcell, hwz⟩⟩
  clear hA0 hval0
  refine (walk a0 len0 cap0 z0 a1 len1 cap1 z1 a2 len2 cap2 z2 W w0 w1 w2).mono fun e W' ⟨he, bel⟩ => ?_
  subst he
  exact ⟨_, rfl, _, _, _, [], _, [], hW', trodAll_mk1 (shut_bool Try.underlying4 _), (trodAll_cons_mk (Below.trod laidOut (by kernel_rfl) (of_decide_eq_true (by kernel_rfl)) k0 bel lt0) (trodAll_cons_mk (Below.trod laidOut (by kernel_rfl) (of_decide_eq_true (by kernel_rfl)) k1 bel lt1) (trodAll_cons_mk (Below.trod laidOut (by kernel_rfl) (of_decide_eq_true (by kernel_rfl)) k2 bel lt2) trodAll_mk0))), rfl, bel.frame _, fun h => by cases h⟩

theorem over : Rows.clockLeastRow.holds Try.pinned (OpenSpec.ofChange Rows.clockLeastSpec) :=
  OpenClaim.holds_of_wide 8 Try.f8 rfl rfl rfl rfl rfl rfl rfl ⟨rfl, rfl, rfl, rfl, rfl⟩ rfl rfl rfl rfl rfl (by kernel_rfl) Try.func8 (by kernel_rfl)
    (of_decide_eq_true (by kernel_rfl)) (by unfold Func.isWrapper; first | (rw [if_pos (by decide +kernel)]; kernel_rfl) | (rw [if_neg (by decide +kernel)]; exact ⟨rfl, rfl⟩))
    (fun os started H enc _ => lifted os started H enc)

end clockLeast

theorem clockLeast_holds : Rows.ClockLeastSaid := clockLeast.over
#print axioms clockLeast_holds
end Go.Proofs.Ytlckhpfokijknad
