/- A step is read back from its line; with a blank more, behind it or ahead of it, the line is of none; a line has more than two signs. For every kind and all numbers. (A tied card: the table of words, the library's table of powers and its two errors hold what the program's text lays.) -/
import Derived.Test.YtaimgddhbkcikapDoorRows
import Derived.Test.YtaimgddhbkcikapDoorCards
import Derived.Test.YtaimgddhbkcikapDoorTie
import Derived.WalkKit
import Derived.ProofKit
import Derived.LaidMore
import Derived.OpenShut
import Derived.Stop.Joined
import Derived.WalkSmall
import Derived.ShutString
import Derived.ChangeOld
import Derived.Below
import Derived.SizedLaws
import Derived.SevenTiedAt
import Derived.ChangeMaps5
import Derived.Test.YtaimgddhbkcikapDoorDH
import Derived.Test.YtaimgddhbkcikapDoorDA
namespace Go.Proofs.YtaimgddhbkcikapDoor
namespace lineBack
open Go Go.ChangeShapes Go.WideShapes Go.ChangeAt Go.RowKit Go.Sort Go.Shelf
open Plain
set_option linter.unusedVariables false

theorem own : ownKnob Tryd.prog.godebug = none := by kernel_rfl
theorem laidOut : laidOutB Tryd.prog = true := by kernel_rfl
/-- The heap that the door leaves meets the list. -/
theorem door_met (os : Os) (args : Array Value) : laidMetH Tryd.prog Rows.lineBackRow.laid ((World.doorLaid Tryd.prog 4000 os).forCall (fun _ _ => 0) ⟨#[], args, []⟩).memory :=
  laidMetH_of_parts3 (fuel := 8) (laidMet_of_run' 8 (by kernel_rfl) (by kernel_rfl)) (by kernel_rfl) (by kernel_rfl)

set_option maxHeartbeats 4000000 in
set_option maxRecDepth 100000 in
theorem walk (w : World) (hE : EnvR w.heap.size w) (a0 : Int) (w0 : In64 a0) (a1 : Int) (w1 : In64 a1) (a2 : Int) (w2 : In64 a2) (a3 : Int) (w3 : In64 a3) (a4 : Int) (w4 : In64 a4) :
    Calls Tryd.prog 5 #[.int .i64 a0, .int .i64 a1, .int .i64 a2, .int .i64 a3, .int .i64 a4] w fun e w' => e = .returned (.bool true) ∧ Below w.heap.size w w' := by
  obtain ⟨k1, k2⟩ := pickK_lt a0
  obtain ⟨sh1, sh2⟩ := line_show a1 a2 a3 a4 (pickK a0) k1 k2
  obtain ⟨rd1, rd2⟩ := line_reads a1 a2 a3 a4 w1 w2 w3 w4 (pickK a0) k1 k2
  obtain ⟨ll1, ll2⟩ := line_len a1 a2 a3 a4 w1 w2 w3 w4 (pickK a0) k1 k2
  have SI := hid (lineS_in a1 a2 a3 a4 w1 w2 w3 w4 (pickK a0))
  have K0 := hid (lineStep_c a0 a1 a2 a3 a4 w w0)
  obtain ⟨S, hS⟩ : ∃ S, S = lineS a1 a2 a3 a4 (pickK a0) := ⟨_, rfl⟩
  obtain ⟨L, hL⟩ : ∃ L, L = lineL a1 a2 a3 a4 (pickK a0) := ⟨_, rfl⟩
  rw [← hS] at sh1 sh2 rd1 SI K0
  rw [← hL] at sh2 rd1 rd2 ll1 ll2
  clear hS hL k1 k2
  have HE := hid hE
  have KS := hid (fun w hw => show_c S SI.out w hw)
  rw [sh1, sh2] at KS
  have KR := hid (fun w (hw : EnvR w.heap.size w) => read_c L (by omega) w hw)
  rw [rd1, rd2] at KR
  have KB := hid (fun w (hw : EnvR w.heap.size w) => read_c (L ++ [32]) (by simp; omega) w hw)
  rw [blank_behind] at KB
  have KA := hid (fun w (hw : EnvR w.heap.size w) => read_c (32 :: L) (by simp; omega) w hw)
  rw [blank_ahead] at KA
  obtain ⟨SB, hSB⟩ : ∃ SB, SB = rdS (L ++ [32]) := ⟨_, rfl⟩
  obtain ⟨SA, hSA⟩ : ∃ SA, SA = rdS (32 :: L) := ⟨_, rfl⟩
  rw [← hSB] at KB
  rw [← hSA] at KA
  have eB : Value.string ((⟨L.toArray⟩ : ByteArray) ++ (⟨#[32]⟩ : ByteArray)) = bs (L ++ [32]) := congrArg Value.string (ByteArray.ext (by simp))
  have eA : Value.string ((⟨#[32]⟩ : ByteArray) ++ (⟨L.toArray⟩ : ByteArray)) = bs (32 :: L) := congrArg Value.string (ByteArray.ext (by simp))
  rw [← eB] at KB
  rw [← eA] at KA
  have c1 : ¬ (9223372036854775807 < L.length + 1) := by omega
  have c2 : ¬ (9223372036854775807 < 1 + L.length) := by omega
  have c3 : (2 : Int) < (L.length : Int) := by omega
  have LL := hid ll2
  clear hE sh1 sh2 rd1 rd2 ll1 ll2 hSB hSA eB eA w0 w1 w2 w3 w4
  go_enter Tryd.func5, Tryd.ntmps5
  go_wp2_with fail
  refine K0.out.mono ?_
  rintro e v1 ⟨rfl, b1⟩
  have E1 := hid (HE.out.on b1)
  have B1 := hid b1
  obtain ⟨N1, hN1⟩ : ∃ N1, N1 = v1.heap.size := ⟨_, rfl⟩
  obtain ⟨W1, hW1⟩ : ∃ W1, W1 = v1.alloc (.cells (stC S) 23) := ⟨_, rfl⟩
  have bbW1 : Below N1 v1 W1 := by rw [hW1, hN1]; exact (Below.refl _ _).alloc (Nat.le_refl _) _
  have l1 : w.heap.size ≤ N1 := by rw [hN1]; exact b1.size
  have E2 := hid (E1.out.on (bbW1.mono l1))
  have B2 := hid (B1.out.trans (bbW1.mono l1))
  have Y2 := hid (show BoxS W1 N1 S by rw [hW1, hN1]; unfold BoxS; show (v1.heap.push _)[v1.heap.size]? = _; simp)
  have K1 := hid (KS.out W1 E2.out.up.env)
  rw [hW1] at K1
  clear K0 b1 bbW1 E1 B1
  go_wp2_with fail
  refine K1.out.mono ?_
  rintro e v2 ⟨rfl, b2⟩
  rw [← hN1]
  rw [← hW1] at b2
  have hl1 : N1 < W1.heap.size := Y2.out.lt
  have E3 := hid (E2.out.on (b2.mono (by omega)))
  have B3 := hid (B2.out.trans (b2.mono B2.out.size))
  have Y3 := hid (Y2.out.keep (b2.block _ hl1))
  have K2 := hid (KR.out v2 E3.out.up)
  clear K1 b2 E2 B2 Y2 hW1 hN1 hl1
  go_wp2_with fail
  refine K2.out.mono ?_
  rintro e v3 ⟨rfl, b3⟩
  have E4 := hid (E3.out.on (b3.mono B3.out.size))
  have B4 := hid (B3.out.trans (b3.mono B3.out.size))
  have Y4 := hid (Y3.out.keep (b3.block _ Y3.out.lt))
  clear K2 b3 E3 B3 Y3
  obtain ⟨N2, hN2⟩ : ∃ N2, N2 = v3.heap.size := ⟨_, rfl⟩
  obtain ⟨W2, hW2⟩ : ∃ W2, W2 = v3.alloc (.cells (stC S) 23) := ⟨_, rfl⟩
  have bbW2 : Below N2 v3 W2 := by rw [hW2, hN2]; exact (Below.refl _ _).alloc (Nat.le_refl _) _
  have l2 : N1 < N2 := by rw [hN2]; exact Y4.out.lt
  have E5 := hid (E4.out.on (bbW2.mono (by omega)))
  have B5 := hid (B4.out.trans (bbW2.mono (by omega)))
  have Y5 := hid (Y4.out.keep (bbW2.block _ l2))
  have Z5 := hid (show BoxS W2 N2 S by rw [hW2, hN2]; unfold BoxS; show (v3.heap.push _)[v3.heap.size]? = _; simp)
  have K3 := hid (KB.out W2 E5.out.up)
  rw [hW2] at K3
  clear bbW2 E4 B4 Y4
  go_wp2_with fail
  refine K3.out.mono ?_
  rintro e v4 ⟨rfl, b4⟩
  rw [← hN2]
  rw [← hW2] at b4
  have E6 := hid (E5.out.on (b4.mono B5.out.size))
  have B6 := hid (B5.out.trans (b4.mono B5.out.size))
  have Y6 := hid (Y5.out.keep (b4.block _ Y5.out.lt))
  have Z6 := hid (Z5.out.keep (b4.block _ Z5.out.lt))
  clear K3 b4 hW2 hN2 E5 B5 Y5 Z5
  obtain ⟨N3, hN3⟩ : ∃ N3, N3 = v4.heap.size := ⟨_, rfl⟩
  obtain ⟨W3, hW3⟩ : ∃ W3, W3 = v4.alloc (.cells (stC SB) 23) := ⟨_, rfl⟩
  have bbW3 : Below N3 v4 W3 := by rw [hW3, hN3]; exact (Below.refl _ _).alloc (Nat.le_refl _) _
  have l3 : N2 < N3 := by rw [hN3]; exact Z6.out.lt
  have E7 := hid (E6.out.on (bbW3.mono (by omega)))
  have B7 := hid (B6.out.trans (bbW3.mono (by omega)))
  have Y7 := hid (Y6.out.keep (bbW3.block _ (by omega)))
  have Z7 := hid (Z6.out.keep (bbW3.block _ l3))
  have K4 := hid (KA.out W3 E7.out.up)
  rw [hW3] at K4
  clear bbW3 E6 B6 Y6 Z6
  go_wp2_with fail
  refine K4.out.mono ?_
  rintro e v5 ⟨rfl, b5⟩
  rw [← hN3]
  rw [← hW3] at b5
  have B8 := hid (B7.out.trans (b5.mono B7.out.size))
  have Y8 := hid (Y7.out.keep (b5.block _ Y7.out.lt))
  have Z8 := hid (Z7.out.keep (b5.block _ Z7.out.lt))
  clear K4 b5 hW3 hN3 E7 B7 Y7 Z7 KS KR KB KA
  obtain ⟨N4, hN4⟩ : ∃ N4, N4 = v5.heap.size := ⟨_, rfl⟩
  obtain ⟨W4, hW4⟩ : ∃ W4, W4 = v5.alloc (.cells (stC SA) 23) := ⟨_, rfl⟩
  have bbW4 : Below N4 v5 W4 := by rw [hW4, hN4]; exact (Below.refl _ _).alloc (Nat.le_refl _) _
  have l4 : N2 < N4 := by rw [hN4]; exact Z8.out.lt
  have B9 := hid (B8.out.trans (bbW4.mono (by omega)))
  have Y9 := Y8.out.keep (bbW4.block _ (by omega))
  have Z9 := Z8.out.keep (bbW4.block _ l4)
  obtain ⟨x0, x1, x2, x3, x4, x5, x6, x7⟩ := Y9.cell
  obtain ⟨z0, z1, z2, z3, z4, z5, z6, z7⟩ := Z9.cell
  rw [hW4] at x0 x1 x2 x3 x4 x5 x6 x7 z0 z1 z2 z3 z4 z5 z6 z7 B9
  clear bbW4 B8 Y8 Z8 hW4 hN4 Y9 Z9
  go_wp2
  go_ret
  exact ⟨rfl, B9.out⟩

set_option maxRecDepth 100000 in
theorem lifted (os : Os) (started : os.Started) (H : Type) (enc : TypeId × Value → H) :
    ReturnsInHanded {} Tryd.checked os 5 .any (fun w args => (Rows.lineBackSpec.pre enc Tryd.prog Tryd.f5 [] false w args ∧ laidMetH Tryd.prog Rows.lineBackRow.laid w) ∧ sizedMet enc Tryd.prog Tryd.f5 (OpenSpec.ofChange Rows.lineBackSpec) false w args)
      (Rows.lineBackSpec.post enc Tryd.prog Tryd.f5 false true false false) := by
  refine returnsInHanded_of_change_and (C := Tryd.checked) (X := fun w _ => laidMetH Tryd.prog Rows.lineBackRow.laid w) (fun _ _ _ hh h => h.of_heap hh) own started (by kernel_rfl) Tryd.func5
    (ChangeSpec.witness_shaped (enc := enc) (C := Tryd.checked) (os := os) (X := fun w _ => laidMetH Tryd.prog Rows.lineBackRow.laid w) false (World.doorLaid Tryd.prog 4000 os) #[.int .i64 0, .int .i64 0, .int .i64 0, .int .i64 0, .int .i64 0] 8 rfl (World.shaped_of_RefB (by kernel_rfl) (by kernel_rfl)) (by kernel_rfl) (by kernel_rfl) (by kernel_rfl) (door_met os _)) ?_
  intro W base args ds gs before hval0 hW _ hwt hL _
  have hval : ∀ (j : Nat) t v, Tryd.f5.params[j]? = some t → args[j]? = some v → Value.okWide Tryd.prog W .any base t v := hval0
  have hW' := hW
  obtain ⟨p, q, hA0, hV, rfl, hfz, hnd⟩ := hW
  have hA : DataW.TrodAll enc Tryd.prog W 0 (fun _ => true) true Tryd.f5.params.toList args.toList ds p := hA0
  rw [Tryd.params5] at hA hval
  obtain ⟨v0, vs0, d0, ds0, p0, q0, hargs, rfl, rfl, h0, r0⟩ := trodAll_cons hA
  obtain ⟨v1, vs1, d1, ds1, p1, q1, rfl, rfl, rfl, h1, r1⟩ := trodAll_cons r0
  obtain ⟨v2, vs2, d2, ds2, p2, q2, rfl, rfl, rfl, h2, r2⟩ := trodAll_cons r1
  obtain ⟨v3, vs3, d3, ds3, p3, q3, rfl, rfl, rfl, h3, r3⟩ := trodAll_cons r2
  obtain ⟨v4, vs4, d4, ds4, p4, q4, rfl, rfl, rfl, h4, r4⟩ := trodAll_cons r3
  obtain ⟨rfl, rfl, rfl⟩ := trodAll_nil r4
  obtain rfl : args = #[v0, v1, v2, v3, v4] := by cases args; simp_all
  obtain ⟨rfl, rfl⟩ := trodVars_none hV
  have k0 := h0
  have lt0 : ∀ x ∈ p0, x.block < W.heap.size := by obtain ⟨m, hm⟩ := k0; exact DataW.trod_lt m _ _ _ hm
  obtain ⟨a0, rfl, _, _, w0⟩ := open_int Tryd.underlying3 (hval 0 3 v0 rfl rfl) h0
  have k1 := h1
  have lt1 : ∀ x ∈ p1, x.block < W.heap.size := by obtain ⟨m, hm⟩ := k1; exact DataW.trod_lt m _ _ _ hm
  obtain ⟨a1, rfl, _, _, w1⟩ := open_int Tryd.underlying3 (hval 1 3 v1 rfl rfl) h1
  have k2 := h2
  have lt2 : ∀ x ∈ p2, x.block < W.heap.size := by obtain ⟨m, hm⟩ := k2; exact DataW.trod_lt m _ _ _ hm
  obtain ⟨a2, rfl, _, _, w2⟩ := open_int Tryd.underlying3 (hval 2 3 v2 rfl rfl) h2
  have k3 := h3
  have lt3 : ∀ x ∈ p3, x.block < W.heap.size := by obtain ⟨m, hm⟩ := k3; exact DataW.trod_lt m _ _ _ hm
  obtain ⟨a3, rfl, _, _, w3⟩ := open_int Tryd.underlying3 (hval 3 3 v3 rfl rfl) h3
  have k4 := h4
  have lt4 : ∀ x ∈ p4, x.block < W.heap.size := by obtain ⟨m, hm⟩ := k4; exact DataW.trod_lt m _ _ _ hm
  obtain ⟨a4, rfl, _, _, w4⟩ := open_int Tryd.underlying3 (hval 4 3 v4 rfl rfl) h4
  clear hA0 hval0
  refine (walk W (env6b hL) a0 (bounds_i64 w0) a1 (bounds_i64 w1) a2 (bounds_i64 w2) a3 (bounds_i64 w3) a4 (bounds_i64 w4)).mono fun e W' ⟨he, bel⟩ => ?_
  subst he
  exact ⟨_, rfl, _, _, _, [], _, [], hW', trodAll_mk1 (shut_bool Tryd.underlying4 _), (trodAll_cons_mk (Below.trod laidOut (by kernel_rfl) (of_decide_eq_true (by kernel_rfl)) k0 bel lt0) (trodAll_cons_mk (Below.trod laidOut (by kernel_rfl) (of_decide_eq_true (by kernel_rfl)) k1 bel lt1) (trodAll_cons_mk (Below.trod laidOut (by kernel_rfl) (of_decide_eq_true (by kernel_rfl)) k2 bel lt2) (trodAll_cons_mk (Below.trod laidOut (by kernel_rfl) (of_decide_eq_true (by kernel_rfl)) k3 bel lt3) (trodAll_cons_mk (Below.trod laidOut (by kernel_rfl) (of_decide_eq_true (by kernel_rfl)) k4 bel lt4) trodAll_mk0))))), rfl, bel.frame _, fun h => by cases h⟩

theorem over : Rows.lineBackRow.holds Tryd.pinned (OpenSpec.ofChange Rows.lineBackSpec) :=
  OpenClaim.holds_of_wide 5 Tryd.f5 rfl rfl rfl rfl rfl rfl rfl ⟨rfl, rfl, rfl, rfl, rfl⟩ rfl rfl rfl rfl rfl (by kernel_rfl) Tryd.func5 (by kernel_rfl)
    (of_decide_eq_true (by kernel_rfl)) (by unfold Func.isWrapper; first | (rw [if_pos (by decide +kernel)]; kernel_rfl) | (rw [if_neg (by decide +kernel)]; exact ⟨rfl, rfl⟩))
    (fun os started H enc _ => lifted os started H enc)

theorem card : Claim7.holds Tryd.pinned (.plain (OpenSpec.ofChange Rows.lineBackSpec)) Rows.lineBackCard :=
  Claim7.holds_tied_plain_at .later [] [.data, .data, .data, .sentinel, .sentinel, .data] true (true, "fc66d924e0140968b4d1d41dd56604b17fbe8fd7abb1ef3c18bf910fba15aeb6") true over (fun _ h => by cases h) (by kernel_rfl) (fun _ h => by cases h) lineBack_row_tie rfl ⟨rfl, rfl⟩ (by kernel_rfl) rfl
    (fun f fn hf hfn => by
      obtain rfl : f = 5 := Option.some.inj ((show Tryd.prog.funcNamed Rows.lineBackRow.func = some 5 by kernel_rfl).symm.trans hf) |>.symm
      obtain rfl : fn = Tryd.f5 := (Option.some.inj (Tryd.func5.symm.trans hfn)).symm
      exact ⟨by kernel_rfl, fun j t ht => by
        rw [Tryd.params5] at ht
        have hm : t ∈ [3, 3, 3, 3, 3] := by simpa using Array.mem_of_getElem? ht
        have hall : ([3, 3, 3, 3, 3].all fun u => !Tryd.prog.wantsStandIn u) = true := by kernel_rfl
        exact (show Tryd.prog.wantsStandIn t = false by simpa using List.all_eq_true.1 hall t hm)⟩)
    (by kernel_rfl)

end lineBack

theorem lineBack_holds : Rows.LineBackCardSaid := lineBack.card
#print axioms lineBack_holds
end Go.Proofs.YtaimgddhbkcikapDoor
