/- Proved: at every three notes the law NewerOrder returns true: of two entries that differ under a key one is newer, and it is an order. Conditions: none. -/
import Derived.Test.YthdhcnjebigdfafRows
import Derived.WalkKit
import Derived.ProofKit
import Derived.OpenShut
import Derived.WalkSmall
import Derived.ShutString
import Derived.ChangeOld
import Derived.Below
import Derived.Test.YthdhcnjebigdfafBx
namespace Go.Proofs.Ythdhcnjebigdfaf
namespace newerOrder
open Go.ChangeShapes Go.WideShapes Go.ChangeAt Go.RowKit
set_option linter.unusedVariables false

theorem own : ownKnob Try.prog.godebug = none := by kernel_rfl
theorem laidOut : laidOutB Try.prog = true := by kernel_rfl

set_option maxHeartbeats 4000000 in
set_option maxRecDepth 100000 in
theorem walk (w : World) (a0 : Plain.En) (w0 : InE a0) (a1 : Plain.En) (w1 : InE a1) (a2 : Plain.En) (w2 : InE a2) :
    Calls Try.prog 5 #[aggE a0, aggE a1, aggE a2] w fun e w' => e = .returned (.bool true) ∧ Below w.heap.size w w' := by
  have K0 := fun W => entryOf_c a0 w0 W
  have K1 := fun W => entryOf_c a1 w1 W
  have K2 := fun W => entryOf_c a2 w2 W
  clear w0 w1 w2
  generalize Plain.eof a0 = a at K0
  generalize Plain.eof a1 = b at K1
  generalize Plain.eof a2 = c at K2
  go_enter Try.func5, Try.ntmps5
  go_wp2_with fail
  obtain ⟨W, hW⟩ : ∃ W, W = ((w.alloc (.cells #[.int .i64 a0.key, .int .i64 a0.value, .int .i64 a0.time, .int .i64 a0.who, .bool a0.gone] 33)).alloc (.cells #[.int .i64 a1.key, .int .i64 a1.value, .int .i64 a1.time, .int .i64 a1.who, .bool a1.gone] 33)).alloc (.cells #[.int .i64 a2.key, .int .i64 a2.value, .int .i64 a2.time, .int .i64 a2.who, .bool a2.gone] 33) := ⟨_, rfl⟩
  rw [← hW]
  have N1 := hid (show BoxT W (w.heap.size + 1) 33 a1 by
    have := (box_new (w.alloc (.cells #[.int .i64 a0.key, .int .i64 a0.value, .int .i64 a0.time, .int .i64 a0.who, .bool a0.gone] 33)) 33 a1).grow ((Below.refl _ _).alloc (Nat.le_refl _) (.cells #[.int .i64 a2.key, .int .i64 a2.value, .int .i64 a2.time, .int .i64 a2.who, .bool a2.gone] 33))
    rw [← hW] at this
    simpa using this)
  have N2 := hid (show BoxT W (w.heap.size + 1 + 1) 33 a2 by
    have := box_new ((w.alloc (.cells #[.int .i64 a0.key, .int .i64 a0.value, .int .i64 a0.time, .int .i64 a0.who, .bool a0.gone] 33)).alloc (.cells #[.int .i64 a1.key, .int .i64 a1.value, .int .i64 a1.time, .int .i64 a1.who, .bool a1.gone] 33)) 33 a2
    rw [← hW] at this
    simpa using this)
  have BW := hid (show Below w.heap.size w W by rw [hW]; exact (((Below.refl _ _).alloc (Nat.le_refl _) _).alloc (by simp) _).alloc (by simp; omega) _)
  clear hW
  refine (K0 _).mono ?_
  rintro e wa ⟨rfl, b1⟩
  replace N1 := hid (N1.out.grow b1)
  replace N2 := hid (N2.out.grow b1)
  replace BW := hid (BW.out.trans (b1.mono BW.out.size))
  clear b1
  have hs1 := N1.out.lt
  have hs2 := N2.out.lt
  obtain ⟨x0, x1, x2, x3, x4⟩ := N1.out.cells
  simp only [Nat.zero_add] at x1 x2 x3 x4
  go_wp2_with fail
  refine (K1 _).mono ?_
  rintro e wb ⟨rfl, b1⟩
  have A2 := hid ((box_new wa 31 a).grow b1)
  have bx : Below wa.heap.size wa wb := ((Below.refl _ _).alloc (Nat.le_refl _) _).trans (b1.mono (by simp))
  replace N2 := hid (N2.out.grow bx)
  replace BW := hid (BW.out.trans (bx.mono BW.out.size))
  have hs3 := A2.out.lt
  have hs4 := N2.out.lt
  have hbw := BW.out.size
  clear b1 bx x0 x1 x2 x3 x4 hs1 hs2 N1
  generalize wa.heap.size = ba at A2 hs3 ⊢
  obtain ⟨x0, x1, x2, x3, x4⟩ := N2.out.cells
  simp only [Nat.zero_add] at x1 x2 x3 x4
  go_wp2_with fail
  refine (K2 _).mono ?_
  rintro e wc ⟨rfl, b1⟩
  have B2 := hid ((box_new wb 31 b).grow b1)
  have bx : Below wb.heap.size wb wc := ((Below.refl _ _).alloc (Nat.le_refl _) _).trans (b1.mono (by simp))
  replace A2 := hid (A2.out.grow bx)
  replace BW := hid (BW.out.trans (bx.mono BW.out.size))
  have hab : ba ≠ wb.heap.size := by omega
  have hbb := hbw
  have hs5 := B2.out.lt
  have hs6 := A2.out.lt
  clear b1 bx x0 x1 x2 x3 x4 hs4 N2 hs3 hbw
  generalize wb.heap.size = bb at B2 hab hs5 hbb ⊢
  obtain ⟨x0, x1, x2, x3, x4⟩ := A2.out.cells
  simp only [Nat.zero_add] at x1 x2 x3 x4
  obtain ⟨y0, y1, y2, y3, y4⟩ := B2.out.cells
  simp only [Nat.zero_add] at y1 y2 y3 y4
  have fz := B2.out.frozen 0
  have hbc : bb ≠ wc.heap.size := by omega
  have hac : ba ≠ wc.heap.size := by omega
  have KT := fun W => newer_b ⟨0, 0, 1, 0, false⟩ ⟨0, 0, 0, 0, false⟩ W
  have e0 : Plain.newer ⟨0, 0, 1, 0, false⟩ ⟨0, 0, 0, 0, false⟩ = true := by decide
  rw [e0] at KT
  clear e0
  go_wp2_with fail
  refine (KT _).mono ?_
  rintro e wt ⟨rfl, b1⟩
  obtain ⟨b', hb'⟩ : ∃ b' : Plain.En, b' = ⟨a.key, b.value, b.time, b.who, b.gone⟩ := ⟨_, rfl⟩
  obtain ⟨c', hc'⟩ : ∃ c' : Plain.En, c' = ⟨a.key, c.value, c.time, c.who, c.gone⟩ := ⟨_, rfl⟩
  have T0 := hid (show Tri w wt ba bb wc.heap.size a b' c' from (show Tri w ((wc.setCell ⟨bb, 0, none⟩ (.int .i64 a.key)).alloc (.cells #[.int .i64 a.key, .int .i64 c.value, .int .i64 c.time, .int .i64 c.who, .bool c.gone] 31)) ba bb wc.heap.size a b' c' from
    ⟨(A2.out.other hab _).grow ((Below.refl _ _).alloc (Nat.le_refl _) _), by rw [hb']; exact (B2.out.key a.key).grow ((Below.refl _ _).alloc (Nat.le_refl _) _), by
      rw [hc']
      have := box_new (wc.setCell ⟨bb, 0, none⟩ (.int .i64 a.key)) 31 ⟨a.key, c.value, c.time, c.who, c.gone⟩
      simpa using this, (BW.out.setCell (p := ⟨bb, 0, none⟩) hbb _).alloc (by simpa using BW.out.size) _⟩).grow b1)
  have DF := hid (Plain.differ (a := a) (b := b') (by rw [hb']))
  clear b1 hb' hc' x0 x1 x2 x3 x4 y0 y1 y2 y3 y4 fz A2 B2 BW hs5 hs6 KT hbb
  generalize wc.heap.size = bc at T0 hac hbc ⊢
  have KAA := fun W => newer_b a a W
  rw [Plain.newer_irr] at KAA
  obtain ⟨x0, x1, x2, x3, x4⟩ := T0.out.a.cells
  simp only [Nat.zero_add] at x1 x2 x3 x4
  go_wp2_with fail
  refine (KAA _).mono ?_
  rintro e wu ⟨rfl, b1⟩
  replace T0 := hid (T0.out.grow b1)
  clear b1 x0 x1 x2 x3 x4 KAA
  have KAB := fun W => newer_g a b' W
  have KBA := fun W => newer_g b' a W
  have KAB2 := fun W => newer_b a b' W
  have KBC := fun W => newer_b b' c' W
  have KAC := fun W => newer_b a c' W
  have HN := hid (fun w => neqE a b' w)
  rw [DF.out] at HN
  have H12 := hid (show Plain.newer a b' = true → Plain.newer b' a = false from Plain.newer_asymm)
  have H134 := hid (show Plain.newer a b' = true → Plain.newer b' c' = true → Plain.newer a c' = true from Plain.newer_trans)
  generalize Plain.newer a b' = r1 at KAB KAB2 HN H12 H134
  generalize Plain.newer b' a = r2 at KBA HN H12
  generalize Plain.newer b' c' = r3 at KBC H134
  generalize Plain.newer a c' = r4 at KAC H134
  have gd := Try.guardEntry
  have mixed : Try.prog.follows .mixedOrders = true := by kernel_rfl
  have hcs : (r1 = true ∧ r2 = false) ∨ (r1 = false ∧ r2 = true) ∨ (r1 = false ∧ r2 = false) := by
    have := H12.out
    cases r1 <;> cases r2 <;> simp_all
  clear H12 DF
  rcases hcs with ⟨rfl, rfl⟩ | ⟨rfl, rfl⟩ | ⟨rfl, rfl⟩
  · have hne := HN.out
    simp at hne
    have p0 := fun n os => (T0.out.a.cells.grown n os).c0
    have p1 := fun n os => (T0.out.a.cells.grown n os).c1
    have p2 := fun n os => (T0.out.a.cells.grown n os).c2
    have p3 := fun n os => (T0.out.a.cells.grown n os).c3
    have p4 := fun n os => (T0.out.a.cells.grown n os).c4
    have q0 := fun n os => (T0.out.b.cells.grown n os).c0
    have q1 := fun n os => (T0.out.b.cells.grown n os).c1
    have q2 := fun n os => (T0.out.b.cells.grown n os).c2
    have q3 := fun n os => (T0.out.b.cells.grown n os).c3
    have q4 := fun n os => (T0.out.b.cells.grown n os).c4
    simp only [Nat.zero_add] at p1 p2 p3 p4 q1 q2 q3 q4
    go_wp2
    go_quiet_grown (first | (go_at_call_of 11 (#[Value.agg #[Value.int IntKind.i64 a.key, Value.int IntKind.i64 a.value, Value.int IntKind.i64 a.time, Value.int IntKind.i64 a.who, Value.bool a.gone], Value.agg #[Value.int IntKind.i64 b'.key, Value.int IntKind.i64 b'.value, Value.int IntKind.i64 b'.time, Value.int IntKind.i64 b'.who, Value.bool b'.gone]] : Array Value); exact Calls.grown_of (KAB _)) | (go_at_call_of 11 (#[Value.agg #[Value.int IntKind.i64 b'.key, Value.int IntKind.i64 b'.value, Value.int IntKind.i64 b'.time, Value.int IntKind.i64 b'.who, Value.bool b'.gone], Value.agg #[Value.int IntKind.i64 a.key, Value.int IntKind.i64 a.value, Value.int IntKind.i64 a.time, Value.int IntKind.i64 a.who, Value.bool a.gone]] : Array Value); exact Calls.grown_of (KBA _)))
    obtain ⟨wv, hwv⟩ : ∃ wv, wv = «Sort».grow (wu.drewN nq) osq := ⟨_, rfl⟩
    rw [← hwv]
    have T1 := hid (T0.out.grow (show Below wu.heap.size wu wv by rw [hwv]; exact below_grow (Below.refl _ _) (Nat.le_refl _) nq osq))
    clear hwv p0 p1 p2 p3 p4 q0 q1 q2 q3 q4 hne HN KAB KBA
    obtain ⟨x0, x1, x2, x3, x4⟩ := T1.out.a.cells
    simp only [Nat.zero_add] at x1 x2 x3 x4
    obtain ⟨y0, y1, y2, y3, y4⟩ := T1.out.b.cells
    simp only [Nat.zero_add] at y1 y2 y3 y4
    go_wp2_with fail
    refine (KAB2 _).mono ?_
    rintro e wx ⟨rfl, b1⟩
    have T2 := hid (T1.out.grow b1)
    clear b1 x0 x1 x2 x3 x4 y0 y1 y2 y3 y4 T1 T0 KAB2
    obtain ⟨y0, y1, y2, y3, y4⟩ := T2.out.b.cells
    simp only [Nat.zero_add] at y1 y2 y3 y4
    obtain ⟨z0, z1, z2, z3, z4⟩ := T2.out.c.cells
    simp only [Nat.zero_add] at z1 z2 z3 z4
    go_wp2_with fail
    refine (KBC _).mono ?_
    rintro e wy ⟨rfl, b1⟩
    have T3 := hid (T2.out.grow b1)
    clear b1 y0 y1 y2 y3 y4 z0 z1 z2 z3 z4 T2 KBC
    cases r3 with
    | false =>
      go_wp2
      go_ret
      exact ⟨rfl, T3.out.bel⟩
    | true =>
      have h4 : r4 = true := H134.out (by first | rfl | trivial) (by first | rfl | trivial)
      rw [h4] at KAC
      clear h4
      obtain ⟨x0, x1, x2, x3, x4⟩ := T3.out.a.cells
      simp only [Nat.zero_add] at x1 x2 x3 x4
      obtain ⟨z0, z1, z2, z3, z4⟩ := T3.out.c.cells
      simp only [Nat.zero_add] at z1 z2 z3 z4
      go_wp2_with fail
      refine (KAC _).mono ?_
      rintro e wz ⟨rfl, b1⟩
      have T4 := hid (T3.out.grow b1)
      clear b1 x0 x1 x2 x3 x4 z0 z1 z2 z3 z4 T3
      go_wp2
      go_ret
      exact ⟨rfl, T4.out.bel⟩
  · have hne := HN.out
    simp at hne
    have p0 := fun n os => (T0.out.a.cells.grown n os).c0
    have p1 := fun n os => (T0.out.a.cells.grown n os).c1
    have p2 := fun n os => (T0.out.a.cells.grown n os).c2
    have p3 := fun n os => (T0.out.a.cells.grown n os).c3
    have p4 := fun n os => (T0.out.a.cells.grown n os).c4
    have q0 := fun n os => (T0.out.b.cells.grown n os).c0
    have q1 := fun n os => (T0.out.b.cells.grown n os).c1
    have q2 := fun n os => (T0.out.b.cells.grown n os).c2
    have q3 := fun n os => (T0.out.b.cells.grown n os).c3
    have q4 := fun n os => (T0.out.b.cells.grown n os).c4
    simp only [Nat.zero_add] at p1 p2 p3 p4 q1 q2 q3 q4
    go_wp2
    go_quiet_grown (first | (go_at_call_of 11 (#[Value.agg #[Value.int IntKind.i64 a.key, Value.int IntKind.i64 a.value, Value.int IntKind.i64 a.time, Value.int IntKind.i64 a.who, Value.bool a.gone], Value.agg #[Value.int IntKind.i64 b'.key, Value.int IntKind.i64 b'.value, Value.int IntKind.i64 b'.time, Value.int IntKind.i64 b'.who, Value.bool b'.gone]] : Array Value); exact Calls.grown_of (KAB _)) | (go_at_call_of 11 (#[Value.agg #[Value.int IntKind.i64 b'.key, Value.int IntKind.i64 b'.value, Value.int IntKind.i64 b'.time, Value.int IntKind.i64 b'.who, Value.bool b'.gone], Value.agg #[Value.int IntKind.i64 a.key, Value.int IntKind.i64 a.value, Value.int IntKind.i64 a.time, Value.int IntKind.i64 a.who, Value.bool a.gone]] : Array Value); exact Calls.grown_of (KBA _)))
    obtain ⟨wv, hwv⟩ : ∃ wv, wv = «Sort».grow (wu.drewN nq) osq := ⟨_, rfl⟩
    rw [← hwv]
    have T1 := hid (T0.out.grow (show Below wu.heap.size wu wv by rw [hwv]; exact below_grow (Below.refl _ _) (Nat.le_refl _) nq osq))
    clear hwv p0 p1 p2 p3 p4 q0 q1 q2 q3 q4 hne HN KAB KBA
    obtain ⟨x0, x1, x2, x3, x4⟩ := T1.out.a.cells
    simp only [Nat.zero_add] at x1 x2 x3 x4
    obtain ⟨y0, y1, y2, y3, y4⟩ := T1.out.b.cells
    simp only [Nat.zero_add] at y1 y2 y3 y4
    go_wp2_with fail
    refine (KAB2 _).mono ?_
    rintro e wx ⟨rfl, b1⟩
    have T2 := hid (T1.out.grow b1)
    clear b1 x0 x1 x2 x3 x4 y0 y1 y2 y3 y4 T1 T0 KAB2
    go_wp2
    go_ret
    exact ⟨rfl, T2.out.bel⟩
  · have hne := HN.out
    simp at hne
    have p0 := fun n os => (T0.out.a.cells.grown n os).c0
    have p1 := fun n os => (T0.out.a.cells.grown n os).c1
    have p2 := fun n os => (T0.out.a.cells.grown n os).c2
    have p3 := fun n os => (T0.out.a.cells.grown n os).c3
    have p4 := fun n os => (T0.out.a.cells.grown n os).c4
    have q0 := fun n os => (T0.out.b.cells.grown n os).c0
    have q1 := fun n os => (T0.out.b.cells.grown n os).c1
    have q2 := fun n os => (T0.out.b.cells.grown n os).c2
    have q3 := fun n os => (T0.out.b.cells.grown n os).c3
    have q4 := fun n os => (T0.out.b.cells.grown n os).c4
    simp only [Nat.zero_add] at p1 p2 p3 p4 q1 q2 q3 q4
    go_wp2
    go_quiet_grown (first | (go_at_call_of 11 (#[Value.agg #[Value.int IntKind.i64 a.key, Value.int IntKind.i64 a.value, Value.int IntKind.i64 a.time, Value.int IntKind.i64 a.who, Value.bool a.gone], Value.agg #[Value.int IntKind.i64 b'.key, Value.int IntKind.i64 b'.value, Value.int IntKind.i64 b'.time, Value.int IntKind.i64 b'.who, Value.bool b'.gone]] : Array Value); exact Calls.grown_of (KAB _)) | (go_at_call_of 11 (#[Value.agg #[Value.int IntKind.i64 b'.key, Value.int IntKind.i64 b'.value, Value.int IntKind.i64 b'.time, Value.int IntKind.i64 b'.who, Value.bool b'.gone], Value.agg #[Value.int IntKind.i64 a.key, Value.int IntKind.i64 a.value, Value.int IntKind.i64 a.time, Value.int IntKind.i64 a.who, Value.bool a.gone]] : Array Value); exact Calls.grown_of (KBA _)))
    obtain ⟨wv, hwv⟩ : ∃ wv, wv = «Sort».grow (wu.drewN nq) osq := ⟨_, rfl⟩
    rw [← hwv]
    have T1 := hid (T0.out.grow (show Below wu.heap.size wu wv by rw [hwv]; exact below_grow (Below.refl _ _) (Nat.le_refl _) nq osq))
    clear hwv p0 p1 p2 p3 p4 q0 q1 q2 q3 q4 hne HN KAB KBA
    obtain ⟨x0, x1, x2, x3, x4⟩ := T1.out.a.cells
    simp only [Nat.zero_add] at x1 x2 x3 x4
    obtain ⟨y0, y1, y2, y3, y4⟩ := T1.out.b.cells
    simp only [Nat.zero_add] at y1 y2 y3 y4
    go_wp2_with fail
    refine (KAB2 _).mono ?_
    rintro e wx ⟨rfl, b1⟩
    have T2 := hid (T1.out.grow b1)
    clear b1 x0 x1 x2 x3 x4 y0 y1 y2 y3 y4 T1 T0 KAB2
    go_wp2
    go_ret
    exact ⟨rfl, T2.out.bel⟩

set_option maxRecDepth 100000 in
theorem lifted (os : Os) (started : os.Started) (H : Type) (enc : TypeId × Value → H) :
    ReturnsInHanded {} Try.checked os 5 .any (Rows.newerOrderSpec.pre6 enc Try.prog Try.f5 Rows.newerOrderRow.domain false) (Rows.newerOrderSpec.post enc Try.prog Try.f5 false true false false) := by
  refine returnsInHanded_of_change (C := Try.checked) own started (by kernel_rfl) Try.func5
    (ChangeSpec.witness6 (enc := enc) (C := Try.checked) false ⟨#[], #[.agg #[.int .i64 0, .int .i64 0, .int .i64 0, .int .i64 0, .bool false], .agg #[.int .i64 0, .int .i64 0, .int .i64 0, .int .i64 0, .bool false], .agg #[.int .i64 0, .int .i64 0, .int .i64 0, .int .i64 0, .bool false]], []⟩ 8 (by kernel_rfl) (by kernel_rfl) (by kernel_rfl) (by kernel_rfl)) ?_
  intro W base args ds gs before hval0 hW hcnd _
  have hval : ∀ (j : Nat) t v, Try.f5.params[j]? = some t → args[j]? = some v → Value.okWide Try.prog W .any base t v := hval0
  have hW' := hW
  obtain ⟨p, q, hA0, hV, rfl, hfz, hnd⟩ := hW
  have hA : DataW.TrodAll enc Try.prog W 0 (fun _ => true) true Try.f5.params.toList args.toList ds p := hA0
  rw [Try.params5] at hA hval
  obtain ⟨v0, vs0, d0, ds0, p0, q0, hargs, rfl, rfl, h0, r0⟩ := trodAll_cons hA
  obtain ⟨v1, vs1, d1, ds1, p1, q1, rfl, rfl, rfl, h1, r1⟩ := trodAll_cons r0
  obtain ⟨v2, vs2, d2, ds2, p2, q2, rfl, rfl, rfl, h2, r2⟩ := trodAll_cons r1
  obtain ⟨rfl, rfl, rfl⟩ := trodAll_nil r2
  obtain rfl : args = #[v0, v1, v2] := by cases args; simp_all
  obtain ⟨rfl, rfl⟩ := trodVars_none hV
  have k0 := h0
  have lt0 : ∀ x ∈ p0, x.block < W.heap.size := by obtain ⟨m, hm⟩ := k0; exact DataW.trod_lt m _ _ _ hm
  obtain ⟨a0, rfl, w0⟩ := en_open Try.underlying33 (by kernel_rfl) ⟨rfl, by intro j f hj; rcases j with _ | _ | _ | _ | _ | j <;> simp at hj <;> subst hj <;> first | exact ⟨rfl, by kernel_rfl, Try.underlying3⟩ | exact ⟨rfl, by kernel_rfl, Try.underlying4⟩⟩ (hval 0 33 v0 rfl rfl) h0
  have k1 := h1
  have lt1 : ∀ x ∈ p1, x.block < W.heap.size := by obtain ⟨m, hm⟩ := k1; exact DataW.trod_lt m _ _ _ hm
  obtain ⟨a1, rfl, w1⟩ := en_open Try.underlying33 (by kernel_rfl) ⟨rfl, by intro j f hj; rcases j with _ | _ | _ | _ | _ | j <;> simp at hj <;> subst hj <;> first | exact ⟨rfl, by kernel_rfl, Try.underlying3⟩ | exact ⟨rfl, by kernel_rfl, Try.underlying4⟩⟩ (hval 1 33 v1 rfl rfl) h1
  have k2 := h2
  have lt2 : ∀ x ∈ p2, x.block < W.heap.size := by obtain ⟨m, hm⟩ := k2; exact DataW.trod_lt m _ _ _ hm
  obtain ⟨a2, rfl, w2⟩ := en_open Try.underlying33 (by kernel_rfl) ⟨rfl, by intro j f hj; rcases j with _ | _ | _ | _ | _ | j <;> simp at hj <;> subst hj <;> first | exact ⟨rfl, by kernel_rfl, Try.underlying3⟩ | exact ⟨rfl, by kernel_rfl, Try.underlying4⟩⟩ (hval 2 33 v2 rfl rfl) h2
  clear hA0 hval0
  refine (walk W a0 w0 a1 w1 a2 w2).mono fun e W' ⟨he, bel⟩ => ?_
  subst he
  exact ⟨_, rfl, _, _, _, [], _, [], hW', trodAll_mk1 (shut_bool Try.underlying4 _), (trodAll_cons_mk (Below.trod laidOut (by kernel_rfl) (of_decide_eq_true (by kernel_rfl)) k0 bel lt0) (trodAll_cons_mk (Below.trod laidOut (by kernel_rfl) (of_decide_eq_true (by kernel_rfl)) k1 bel lt1) (trodAll_cons_mk (Below.trod laidOut (by kernel_rfl) (of_decide_eq_true (by kernel_rfl)) k2 bel lt2) trodAll_mk0))), rfl, bel.frame _, fun h => by cases h⟩

theorem over : Rows.newerOrderRow.holds Try.pinned (OpenSpec.ofChange Rows.newerOrderSpec) :=
  OpenClaim.holds_of_wide 5 Try.f5 rfl rfl rfl rfl rfl rfl rfl ⟨rfl, rfl, rfl, rfl, rfl⟩ rfl rfl rfl rfl rfl (by kernel_rfl) Try.func5 (by kernel_rfl)
    (of_decide_eq_true (by kernel_rfl)) (by unfold Func.isWrapper; first | (rw [if_pos (by decide +kernel)]; kernel_rfl) | (rw [if_neg (by decide +kernel)]; exact ⟨rfl, rfl⟩))
    (fun os started H enc _ => lifted os started H enc)

end newerOrder

theorem newerOrder_holds : Rows.NewerOrderSaid := newerOrder.over
#print axioms newerOrder_holds
end Go.Proofs.Ythdhcnjebigdfaf
