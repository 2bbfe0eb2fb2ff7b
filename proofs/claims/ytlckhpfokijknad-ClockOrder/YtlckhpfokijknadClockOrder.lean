/- Proved: at every three lists of 64-bit integers the law ClockOrder returns true: clocks stand in a partial order, the same from both sides. Conditions: none. -/
import Derived.Test.YtlckhpfokijknadRows
import Derived.WalkKit
import Derived.ProofKit
import Derived.OpenShut
import Derived.WalkSmall
import Derived.Test.YtlckhpfokijknadKc
import Derived.Test.YtlckhpfokijknadSik
import Derived.ShutString
import Derived.ChangeOld
import Derived.Below
namespace Go.Proofs.Ytlckhpfokijknad
namespace clockOrder
open Go.ChangeShapes Go.WideShapes Go.ChangeAt Go.RowKit
open Go.ChangeMaps (open_string shut_string)
set_option linter.unusedVariables false

theorem own : ownKnob Try.prog.godebug = none := by kernel_rfl
theorem laidOut : laidOutB Try.prog = true := by kernel_rfl

/-- WHAT THE WALK IS TOLD OF A SLICE OF INTEGERS THAT CAME IN: it is nil; or it leads to a row of 'cap' cells, the numbers 'zs' (the first 'len' are its elements, the rest its spare room), each fitting its kind. -/
def IsRow (k : IntKind) (w : World) (a : Option Addr) (len cap : Nat) (zs : List Int) : Prop :=
  (a = none ∧ len = 0 ∧ cap = 0 ∧ zs = []) ∨
  ∃ x, a = some x ∧ len ≤ cap ∧ cap ≤ maxLen ∧ zs.length = cap ∧ (∀ i, i < zs.length → w.cell? (x.add i) = some (.int k (zs.getD i 0))) ∧ ∀ n ∈ zs, (Lit.int k n).wf = true

set_option maxHeartbeats 4000000 in
theorem walk (a0 : Option Addr) (len0 cap0 : Nat) (z0 : List Int) (a1 : Option Addr) (len1 cap1 : Nat) (z1 : List Int) (a2 : Option Addr) (len2 cap2 : Nat) (z2 : List Int) (w : World) (w0 : IsRow .i64 w a0 len0 cap0 z0) (w1 : IsRow .i64 w a1 len1 cap1 z1) (w2 : IsRow .i64 w a2 len2 cap2 z2) :
    Calls Try.prog 7 #[.slice a0 len0 cap0, .slice a1 len1 cap1, .slice a2 len2 cap2] w fun e w' => e = .returned (.bool true) ∧ Below w.heap.size w w' := by
  obtain ⟨l, hl, _, hcap, hw1, hli, hseg⟩ := row_seg w0
  obtain ⟨m, hm, _, hcap', hw2, hli', hseg'⟩ := row_seg w1
  obtain ⟨n, hn, _, hcap2, hw3, hli2, hseg2⟩ := row_seg w2
  subst hl hm hn
  have H := hid hseg
  have H' := hid hseg'
  have H2 := hid hseg2
  have HL := hid hli
  have HL' := hid hli'
  have HL2 := hid hli2
  have W1 := hid hw1
  have W2 := hid hw2
  have W3 := hid hw3
  clear hseg hli w0 hseg' hli' w1 hseg2 hli2 w2 hw1 hw2 hw3
  go_enter Try.func7, Try.ntmps7
  go_wp2_with fail
  refine (clockOf_any _ l W1.out (by omega) _ H.out HL.out).mono ?_
  rintro e v1 ⟨rfl, r1, b1⟩
  have R1 := hid r1
  have B1 := hid b1
  clear r1 b1
  go_wp2_with fail
  refine (clockOf_any _ m W2.out (by omega) _ (H'.out.below B1.out HL'.out) (HL'.out.mono B1.out.size)).mono ?_
  rintro e v2 ⟨rfl, r2, b2⟩
  have R2 := hid r2
  have B2 := hid b2
  clear r2 b2
  go_wp2_with fail
  refine (clockOf_any _ n W3.out (by omega) _ ((H2.out.below B1.out HL2.out).below B2.out (HL2.out.mono B1.out.size)) ((HL2.out.mono B1.out.size).mono B2.out.size)).mono ?_
  rintro e v3 ⟨rfl, r3, b3⟩
  have BW := hid (show Below w.heap.size w v3 from B1.out.trans ((B2.out.mono B1.out.size).trans (b3.mono (Nat.le_trans B1.out.size B2.out.size))))
  have SA := hid (show Seg v3 (.slice (some ⟨w.heap.size, 0, none⟩) 4 4) (Plain.clk l) ∧ w.heap.size < v3.heap.size from by
    have h1 := ((R1.out.below B2.out R1.out.lt).below b3 (Nat.lt_of_lt_of_le R1.out.lt B2.out.size))
    have h := h1.seg 4
    rw [Plain.clk_len] at h
    exact ⟨h, h1.lt⟩)
  have SB := hid (show Seg v3 (.slice (some ⟨v1.heap.size, 0, none⟩) 4 4) (Plain.clk m) ∧ v1.heap.size < v3.heap.size from by
    have h1 := R2.out.below b3 R2.out.lt
    have h := h1.seg 4
    rw [Plain.clk_len] at h
    exact ⟨h, h1.lt⟩)
  have SC := hid (show Seg v3 (.slice (some ⟨v2.heap.size, 0, none⟩) 4 4) (Plain.clk n) ∧ v2.heap.size < v3.heap.size from by
    have h := r3.seg 4
    rw [Plain.clk_len] at h
    exact ⟨h, r3.lt⟩)
  clear r3 b3
  generalize hp1 : w.heap.size = p1 at SA
  generalize hp2 : v1.heap.size = p2 at SB
  generalize hp3 : v2.heap.size = p3 at SC
  have FA := hid (Plain.clk_fit l)
  have FB := hid (Plain.clk_fit m)
  have FC := hid (Plain.clk_fit n)
  generalize Plain.clk l = a at SA FA
  generalize Plain.clk m = b at SB FB
  generalize Plain.clk n = c at SC FC
  have Kab := fun q => korder _ _ 4 a b FA.out FB.out _ (SA.out.1.drew q) (SB.out.1.drew q)
  have Kba := fun q => korder _ _ 4 b a FB.out FA.out _ (SB.out.1.drew q) (SA.out.1.drew q)
  have Kaa := fun q => korder _ _ 4 a a FA.out FA.out _ (SA.out.1.drew q) (SA.out.1.drew q)
  have Kbc := fun q => korder _ _ 4 b c FB.out FC.out _ (SB.out.1.drew q) (SC.out.1.drew q)
  have Kac := fun q => korder _ _ 4 a c FA.out FC.out _ (SA.out.1.drew q) (SC.out.1.drew q)
  have Km := fun q => may_any _ a (by rw [FA.out.2]; omega) _ (SA.out.1.drew q)
  have Ks := fun q => keep.same_any _ _ a b (by rw [FA.out.2]; omega) _ (SA.out.1.drew q) (SB.out.1.drew q)
  rw [FA.out.1] at Km
  rw [(Plain.oV_zero FA.out FA.out).2 rfl] at Kaa
  rw [Plain.oV_turn FA.out FB.out] at Kba
  have hbd := Plain.oV_bd FA.out FB.out
  have hon := hid (Plain.oV_on FA.out FB.out FC.out)
  rw [show decide (a = b) = decide (Plain.oV a b = 0) from by rw [decide_eq_decide]; exact (Plain.oV_zero FA.out FB.out).symm] at Ks
  generalize Plain.oV a b = x at Kab Kba Ks hbd hon
  generalize Plain.oV b c = y at Kbc hon
  generalize Plain.oV a c = z at Kac hon
  have hx : x = -1 ∨ x = 0 ∨ x = 1 ∨ x = 2 := by omega
  clear hbd H H' H2 HL HL' HL2 W1 W2 W3 R1 R2 B1 B2
  rcases hx with rfl | rfl | rfl | rfl
  · rw [show (if (-1 : Int) = 2 then (2 : Int) else -(-1 : Int)) = 1 from by decide] at Kba
    rw [show decide ((-1 : Int) = 0) = false from by decide] at Ks
    go_wp2_with fail
    refine (Kab 0).mono ?_
    rintro e u1 ⟨rfl, q1, rfl⟩
    go_wp2_with fail
    refine (Kba q1).mono ?_
    rintro e u2 ⟨rfl, q2, rfl⟩
    rw [drewN_add]
    go_wp2_with fail
    refine (Km _).mono ?_
    rintro e u3 ⟨rfl, rfl⟩
    go_wp2_with fail
    refine (Kaa _).mono ?_
    rintro e u4 ⟨rfl, q4, rfl⟩
    rw [drewN_add]
    go_wp2_with fail
    refine (Ks _).mono ?_
    rintro e u5 ⟨rfl, q5, rfl⟩
    rw [drewN_add]
    by_cases cy : y = -1
    · subst cy
      have hz : z = -1 := hon.out trivial rfl
      subst hz
      go_wp2_with fail
      refine (Kbc _).mono ?_
      rintro e u6 ⟨rfl, q6, rfl⟩
      rw [drewN_add]
      go_wp2_with fail
      refine (Kac _).mono ?_
      rintro e u7 ⟨rfl, q7, rfl⟩
      rw [drewN_add]
      go_wp2
      go_ret
      exact ⟨rfl, below_drewN (hp1 ▸ BW.out) _⟩
    · go_wp2_with fail
      refine (Kbc _).mono ?_
      rintro e u6 ⟨rfl, q6, rfl⟩
      rw [drewN_add]
      go_wp2
      go_ret
      exact ⟨rfl, below_drewN (hp1 ▸ BW.out) _⟩
  · rw [show (if (0 : Int) = 2 then (2 : Int) else -(0 : Int)) = 0 from by decide] at Kba
    rw [show decide ((0 : Int) = 0) = true from by decide] at Ks
    go_wp2_with fail
    refine (Kab 0).mono ?_
    rintro e u1 ⟨rfl, q1, rfl⟩
    go_wp2_with fail
    refine (Kba q1).mono ?_
    rintro e u2 ⟨rfl, q2, rfl⟩
    rw [drewN_add]
    go_wp2_with fail
    refine (Km _).mono ?_
    rintro e u3 ⟨rfl, rfl⟩
    go_wp2_with fail
    refine (Kaa _).mono ?_
    rintro e u4 ⟨rfl, q4, rfl⟩
    rw [drewN_add]
    go_wp2_with fail
    refine (Ks _).mono ?_
    rintro e u5 ⟨rfl, q5, rfl⟩
    rw [drewN_add]
    go_wp2
    go_ret
    exact ⟨rfl, below_drewN (hp1 ▸ BW.out) _⟩
  · rw [show (if (1 : Int) = 2 then (2 : Int) else -(1 : Int)) = -1 from by decide] at Kba
    rw [show decide ((1 : Int) = 0) = false from by decide] at Ks
    go_wp2_with fail
    refine (Kab 0).mono ?_
    rintro e u1 ⟨rfl, q1, rfl⟩
    go_wp2_with fail
    refine (Kba q1).mono ?_
    rintro e u2 ⟨rfl, q2, rfl⟩
    rw [drewN_add]
    go_wp2_with fail
    refine (Km _).mono ?_
    rintro e u3 ⟨rfl, rfl⟩
    go_wp2_with fail
    refine (Kaa _).mono ?_
    rintro e u4 ⟨rfl, q4, rfl⟩
    rw [drewN_add]
    go_wp2_with fail
    refine (Ks _).mono ?_
    rintro e u5 ⟨rfl, q5, rfl⟩
    rw [drewN_add]
    go_wp2
    go_ret
    exact ⟨rfl, below_drewN (hp1 ▸ BW.out) _⟩
  · rw [show (if (2 : Int) = 2 then (2 : Int) else -(2 : Int)) = 2 from by decide] at Kba
    rw [show decide ((2 : Int) = 0) = false from by decide] at Ks
    go_wp2_with fail
    refine (Kab 0).mono ?_
    rintro e u1 ⟨rfl, q1, rfl⟩
    go_wp2_with fail
    refine (Kba q1).mono ?_
    rintro e u2 ⟨rfl, q2, rfl⟩
    rw [drewN_add]
    go_wp2_with fail
    refine (Km _).mono ?_
    rintro e u3 ⟨rfl, rfl⟩
    go_wp2_with fail
    refine (Kaa _).mono ?_
    rintro e u4 ⟨rfl, q4, rfl⟩
    rw [drewN_add]
    go_wp2_with fail
    refine (Ks _).mono ?_
    rintro e u5 ⟨rfl, q5, rfl⟩
    rw [drewN_add]
    go_wp2
    go_ret
    exact ⟨rfl, below_drewN (hp1 ▸ BW.out) _⟩

set_option maxRecDepth 100000 in
theorem lifted (os : Os) (started : os.Started) (H : Type) (enc : TypeId × Value → H) :
    ReturnsInHanded {} Try.checked os 7 .any (Rows.clockOrderSpec.pre6 enc Try.prog Try.f7 Rows.clockOrderRow.domain false) (Rows.clockOrderSpec.post enc Try.prog Try.f7 false true false false) := by
  refine returnsInHanded_of_change (C := Try.checked) own started (by kernel_rfl) Try.func7
    (ChangeSpec.witness6 (enc := enc) (C := Try.checked) false ⟨#[], #[.slice none 0 0, .slice none 0 0, .slice none 0 0], []⟩ 8 (by kernel_rfl) (by kernel_rfl) (by kernel_rfl) (by kernel_rfl)) ?_
  intro W base args ds gs before hval0 hW hcnd _
  have hval : ∀ (j : Nat) t v, Try.f7.params[j]? = some t → args[j]? = some v → Value.okWide Try.prog W .any base t v := hval0
  have hW' := hW
  obtain ⟨p, q, hA0, hV, rfl, hfz, hnd⟩ := hW
  have hA : DataW.TrodAll enc Try.prog W 0 (fun _ => true) true Try.f7.params.toList args.toList ds p := hA0
  rw [Try.params7] at hA hval
  obtain ⟨v0, vs0, d0, ds0, p0, q0, hargs, rfl, rfl, h0, r0⟩ := trodAll_cons hA
  obtain ⟨v1, vs1, d1, ds1, p1, q1, rfl, rfl, rfl, h1, r1⟩ := trodAll_cons r0
  obtain ⟨v2, vs2, d2, ds2, p2, q2, rfl, rfl, rfl, h2, r2⟩ := trodAll_cons r1
  obtain ⟨rfl, rfl, rfl⟩ := trodAll_nil r2
  obtain rfl : args = #[v0, v1, v2] := by cases args; simp_all
  obtain ⟨rfl, rfl⟩ := trodVars_none hV
  obtain ⟨a0, len0, cap0, rfl⟩ := okWide_slice Try.underlying22 (hval 0 22 v0 rfl rfl)
  have k0 := h0
  have lt0 : ∀ x ∈ p0, x.block < W.heap.size := by obtain ⟨m, hm⟩ := k0; exact DataW.trod_lt m _ _ _ hm
  obtain ⟨z0, w0⟩ : ∃ zs, IsRow .i64 W a0 len0 cap0 zs := by
    obtain ⟨fuel, hf⟩ := h0
    rcases open_ints Try.underlying22 Try.underlying3 (by kernel_rfl) hf with ⟨hcs, _⟩ | ⟨x, l, c, zs, hcs, _, hl, hm, hz, _, hcell, hwz⟩
    · simp [Value.cells] at hcs
      obtain ⟨rfl, rfl, rfl⟩ := hcs
      exact ⟨[], .inl ⟨rfl, rfl, rfl, rfl⟩⟩
    · simp [Value.cells] at hcs
      obtain ⟨rfl, rfl, rfl⟩ := hcs
      exact ⟨zs, .inr ⟨_, rfl, hl, hm, by simpa using hz, hcell, hwz⟩⟩
  obtain ⟨a1, len1, cap1, rfl⟩ := okWide_slice Try.underlying22 (hval 1 22 v1 rfl rfl)
  have k1 := h1
  have lt1 : ∀ x ∈ p1, x.block < W.heap.size := by obtain ⟨m, hm⟩ := k1; exact DataW.trod_lt m _ _ _ hm
  obtain ⟨z1, w1⟩ : ∃ zs, IsRow .i64 W a1 len1 cap1 zs := by
    obtain ⟨fuel, hf⟩ := h1
    rcases open_ints Try.underlying22 Try.underlying3 (by kernel_rfl) hf with ⟨hcs, _⟩ | ⟨x, l, c, zs, hcs, _, hl, hm, hz, _, hcell, hwz⟩
    · simp [Value.cells] at hcs
      obtain ⟨rfl, rfl, rfl⟩ := hcs
      exact ⟨[], .inl ⟨rfl, rfl, rfl, rfl⟩⟩
    · simp [Value.cells] at hcs
      obtain ⟨rfl, rfl, rfl⟩ := hcs
      exact ⟨zs, .inr ⟨_, rfl, hl, hm, by simpa using hz, hcell, hwz⟩⟩
  obtain ⟨a2, len2, cap2, rfl⟩ := okWide_slice Try.underlying22 (hval 2 22 v2 rfl rfl)
  have k2 := h2
  have lt2 : ∀ x ∈ p2, x.block < W.heap.size := by obtain ⟨m, hm⟩ := k2; exact DataW.trod_lt m _ _ _ hm
  obtain ⟨z2, w2⟩ : ∃ zs, IsRow .i64 W a2 len2 cap2 zs := by
    obtain ⟨fuel, hf⟩ := h2
    rcases open_ints Try.underlying22 Try.underlying3 (by kernel_rfl) hf with ⟨hcs, _⟩ | ⟨x, l, c, zs, hcs, _, hl, hm, hz, _, hcell, hwz⟩
    · simp [Value.cells] at hcs
      obtain ⟨rfl, rfl, rfl⟩ := hcs
      exact ⟨[], .inl ⟨rfl, rfl, rfl, rfl⟩⟩
    · simp [Value.cells] at hcs
      obtain ⟨rfl, rfl, rfl⟩ := hcs
      exact ⟨zs, .inr ⟨_, rfl, hl, hm, by simpa using hz, hcell, hwz⟩⟩
  clear hA0 hval0
  refine (walk a0 len0 cap0 z0 a1 len1 cap1 z1 a2 len2 cap2 z2 W w0 w1 w2).mono fun e W' ⟨he, bel⟩ => ?_
  subst he
  exact ⟨_, rfl, _, _, _, [], _, [], hW', trodAll_mk1 (shut_bool Try.underlying4 _), (trodAll_cons_mk (Below.trod laidOut (by kernel_rfl) (of_decide_eq_true (by kernel_rfl)) k0 bel lt0) (trodAll_cons_mk (Below.trod laidOut (by kernel_rfl) (of_decide_eq_true (by kernel_rfl)) k1 bel lt1) (trodAll_cons_mk (Below.trod laidOut (by kernel_rfl) (of_decide_eq_true (by kernel_rfl)) k2 bel lt2) trodAll_mk0))), rfl, bel.frame _, fun h => by cases h⟩

theorem over : Rows.clockOrderRow.holds Try.pinned (OpenSpec.ofChange Rows.clockOrderSpec) :=
  OpenClaim.holds_of_wide 7 Try.f7 rfl rfl rfl rfl rfl rfl rfl ⟨rfl, rfl, rfl, rfl, rfl⟩ rfl rfl rfl rfl rfl (by kernel_rfl) Try.func7 (by kernel_rfl)
    (of_decide_eq_true (by kernel_rfl)) (by unfold Func.isWrapper; first | (rw [if_pos (by decide +kernel)]; kernel_rfl) | (rw [if_neg (by decide +kernel)]; exact ⟨rfl, rfl⟩))
    (fun os started H enc _ => lifted os started H enc)

end clockOrder

theorem clockOrder_holds : Rows.ClockOrderSaid := clockOrder.over
#print axioms clockOrder_holds
end Go.Proofs.Ytlckhpfokijknad
