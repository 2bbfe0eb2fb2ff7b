/- desk.Read answers what the document says, at every line of up to 1048575 signs. (The second form of the statement, a tied card: the table of words, the library's table of powers and its two errors hold what the program's text lays. The first form is false by size alone: a line of 2^47 - 4096 blanks makes a list of words that passes 2^48 bytes in the document's own answer.) -/
import Derived.Test.YtaimgddhbkcikapDoorRows
import Derived.Test.YtaimgddhbkcikapDoorCards
import Derived.Test.YtaimgddhbkcikapDoorTie
import Derived.WalkKit
import Derived.ProofKit
import Derived.LaidMore
import Derived.OpenShut
import Derived.Stop.Joined
import Derived.WalkSmall
import Derived.ShutString
import Derived.ChangeOld
import Derived.Below
import Derived.SizedLaws
import Derived.SevenTiedAt
import Derived.Deep.DeepHandedRow
import Derived.Deep.DeepWitnessRowRef
import Derived.ChangeMaps5
import Derived.Test.YtaimgddhbkcikapDoorDK
import Derived.Test.YtaimgddhbkcikapDoorDA
namespace Go.Proofs.YtaimgddhbkcikapDoor
namespace deskReads
open Go Go.ChangeShapes Go.WideShapes Go.ChangeAt Go.RowKit Go.Sort Go.Shelf
open Plain
set_option linter.unusedVariables false

theorem own : ownKnob Tryd.prog.godebug = none := by kernel_rfl
theorem laidOut : laidOutB Tryd.prog = true := by kernel_rfl
/-- The heap that the door leaves meets the list. -/
theorem door_met (os : Os) (args : Array Value) : laidMetH Tryd.prog Rows.deskReadsUptoRow.laid ((World.doorLaid Tryd.prog 4000 os).forCall (fun _ _ => 0) ⟨#[], args, []⟩).memory :=
  laidMetH_of_parts3 (fuel := 8) (laidMet_of_run' 8 (by kernel_rfl) (by kernel_rfl)) (by kernel_rfl) (by kernel_rfl)

set_option maxHeartbeats 4000000 in
set_option maxRecDepth 100000 in
theorem walk (w : World) (hE : EnvR w.heap.size w) (l0 : List UInt8) (w0 : l0.length ≤ 1048576) :
    Calls Tryd.prog 4 #[bs l0] w fun e w' => e = .returned (.bool true) ∧ Below w.heap.size w w' := by
  obtain ⟨RS, hRS⟩ : ∃ RS, RS = rdS l0 := ⟨_, rfl⟩
  obtain ⟨RE, hRE⟩ : ∃ RE, RE = rdE l0 := ⟨_, rfl⟩
  have K1 := hid (read_c l0 (by omega) w hE)
  have K2 := hid (fun w => rread_c l0 w0 w)
  rw [← hRS, ← hRE] at K1 K2
  clear hRS hRE hE
  go_enter Tryd.func4, Tryd.ntmps4
  go_wp2_with fail
  refine K1.out.mono ?_
  rintro e w1 ⟨rfl, b1⟩
  obtain ⟨N, hN⟩ : ∃ N, N = w1.heap.size := ⟨_, rfl⟩
  obtain ⟨WB, hWB⟩ : ∃ WB, WB = w1.alloc (.cells (stC RS) 23) := ⟨_, rfl⟩
  have bb : Below N w1 WB := by rw [hWB, hN]; exact (Below.refl _ _).alloc (Nat.le_refl _) _
  have hle : w.heap.size ≤ N := by rw [hN]; exact b1.size
  have YB := hid (show BoxS WB N RS by rw [hWB, hN]; unfold BoxS; show (w1.heap.push _)[w1.heap.size]? = _; simp)
  have BB := hid (b1.trans (bb.mono hle))
  have K3 := hid (K2.out WB)
  rw [hWB] at K3
  clear b1 bb K1 K2
  go_wp2_with fail
  refine K3.out.mono ?_
  rintro e w2 ⟨rfl, b2⟩
  rw [← hN]
  rw [← hWB] at b2
  have hltN : N < WB.heap.size := YB.out.lt
  have Y2 := hid (YB.out.keep (b2.block _ hltN))
  have B2 := hid (BB.out.trans (b2.mono BB.out.size))
  have hN2 : N < w2.heap.size := Y2.out.lt
  clear K3 hWB hN YB BB b2
  obtain ⟨M, hM⟩ : ∃ M, M = w2.heap.size := ⟨_, rfl⟩
  obtain ⟨WC, hWC⟩ : ∃ WC, WC = w2.alloc (.cells (stC RS) 23) := ⟨_, rfl⟩
  have bc : Below M w2 WC := by rw [hWC, hM]; exact (Below.refl _ _).alloc (Nat.le_refl _) _
  have hleM : w.heap.size ≤ M := by omega
  have YC := hid (Y2.out.keep (bc.block _ (by omega)))
  have BC := hid (B2.out.trans (bc.mono hleM))
  obtain ⟨x0, x1, x2, x3, x4, x5, x6, x7⟩ := YC.out.cell
  rw [hWC] at x0 x1 x2 x3 x4 x5 x6 x7 BC
  clear bc Y2 B2 YC hWC hM
  go_wp2
  go_ret
  exact ⟨rfl, BC.out⟩

theorem rd (os : Os) {H : Type} (enc : TypeId × Value → H) : ∃ places, DataW.whole enc Tryd.prog ((World.doorLaid Tryd.prog 4000 os).forCall (fun _ _ => 0) ⟨#[], #[.string ⟨#[]⟩], []⟩).memory Tryd.f4.params.toList Rows.deskReadsSpec.vars false #[Value.string ⟨#[]⟩].toList 8 = some ([.lit (.string [])], [], places) :=
  ⟨[], by kernel_rfl⟩
theorem met (os : Os) : laidMet Tryd.prog Rows.deskReadsUptoRow.laid ((World.doorLaid Tryd.prog 4000 os).forCall (fun _ _ => 0) ⟨#[], #[.string ⟨#[]⟩], []⟩).memory :=
  laidMet_of_run' 8 (by kernel_rfl) (by kernel_rfl)
theorem metH (os : Os) : laidMetH Tryd.prog Rows.deskReadsUptoRow.laid ((World.doorLaid Tryd.prog 4000 os).forCall (fun _ _ => 0) ⟨#[], #[.string ⟨#[]⟩], []⟩).memory := door_met os _

set_option maxRecDepth 100000 in
theorem lifted (os : Os) (started : os.Started) (H : Type) (enc : TypeId × Value → H) (F : Stop.Interp) :
    ReturnsInHanded {} Tryd.checked os 4 .any ((Rows.OpenSpec.upto Rows.deskReadsSpec).preRow enc Tryd.prog Tryd.f4 Rows.deskReadsUptoRow.domain false Rows.deskReadsUptoRow.laid) (((Rows.OpenSpec.upto Rows.deskReadsSpec).at F).post enc Tryd.prog Tryd.f4 false true false false) := by
  obtain ⟨places, hx⟩ := rd os enc
  refine returnsInHanded_of_row (C := Tryd.checked) (s := Rows.OpenSpec.upto Rows.deskReadsSpec) own started (by kernel_rfl) Tryd.func4
    (witness_row_atRef (enc := enc) (C := Tryd.checked) false (World.doorLaid Tryd.prog 4000 os) #[.string ⟨#[]⟩] rfl (by kernel_rfl) (by kernel_rfl) (by kernel_rfl)
      (OpenSpec.preRow_of_cond 8 hx (by kernel_rfl) (fun k hk => by cases hk; kernel_rfl) (by kernel_rfl) (metH os))) ?_
  intro W base args ds gs before hval0 hW _ hcond _ hL _ _
  have hval : ∀ (j : Nat) t v, Tryd.f4.params[j]? = some t → args[j]? = some v → Value.okWide Tryd.prog W .any base t v := hval0
  have hW' := hW
  obtain ⟨p, q, hA0, hV, rfl, hfz, hnd⟩ := hW
  have hA : DataW.TrodAll enc Tryd.prog W 0 (fun _ => true) true Tryd.f4.params.toList args.toList ds p := hA0
  rw [Tryd.params4] at hA hval
  obtain ⟨v0, vs0, d0, ds0, p0, q0, hargs, rfl, rfl, h0, r0⟩ := trodAll_cons hA
  obtain ⟨rfl, rfl, rfl⟩ := trodAll_nil r0
  obtain rfl : args = #[v0] := by cases args; simp_all
  obtain ⟨rfl, rfl⟩ := trodVars_none hV
  have k0 := h0
  have lt0 : ∀ x ∈ p0, x.block < W.heap.size := by obtain ⟨m, hm⟩ := k0; exact DataW.trod_lt m _ _ _ hm
  obtain ⟨s0, rfl, e0, _, _⟩ := Go.ChangeMaps.open_string Tryd.underlying9 (hval 0 9 v0 rfl rfl) h0
  subst e0
  have w0 : s0.data.toList.length ≤ 1048576 := by
    have h1 := of_decide_eq_true (hcond _ rfl)
    simp only [List.append_nil, Rows.uptoBulkAll, Rows.uptoBulk] at h1
    omega
  clear hA0 hval0
  refine (walk W (env6r hL) s0.data.toList w0).mono fun e W' ⟨he, bel⟩ => ?_
  subst he
  exact ⟨_, rfl, _, _, _, [], _, [], hW', trodAll_mk1 (shut_bool Tryd.underlying4 _), (trodAll_cons_mk (Below.trod laidOut (by kernel_rfl) (of_decide_eq_true (by kernel_rfl)) k0 bel lt0) trodAll_mk0), rfl, bel.frame _, fun h => by cases h⟩

theorem over : Rows.deskReadsUptoRow.holds Tryd.pinned (Rows.OpenSpec.upto Rows.deskReadsSpec) :=
  OpenClaim.holds_of_cond 4 Tryd.f4 rfl rfl rfl rfl rfl rfl rfl ⟨rfl, rfl, rfl, rfl, rfl⟩ rfl rfl rfl rfl rfl (by kernel_rfl) Tryd.func4 (by kernel_rfl)
    (of_decide_eq_true (by kernel_rfl)) (by unfold Func.isWrapper; first | (rw [if_pos (by decide +kernel)]; kernel_rfl) | (rw [if_neg (by decide +kernel)]; exact ⟨rfl, rfl⟩))
    (fun os started H enc _ F => by rw [OpenClaim.pre_eq_preRow]; exact lifted os started H enc F)

theorem card : Claim7.holds Tryd.pinned (.plain (Rows.OpenSpec.upto Rows.deskReadsSpec)) Rows.deskReadsUptoCard :=
  Claim7.holds_tied_plain_at .later [] [.data, .data, .data, .sentinel, .sentinel, .data] true (true, "fc66d924e0140968b4d1d41dd56604b17fbe8fd7abb1ef3c18bf910fba15aeb6") true over (fun _ h => by cases h) (by kernel_rfl) (fun _ h => by cases h) deskReadsUpto_row_tie rfl ⟨rfl, rfl⟩ (by kernel_rfl) rfl
    (fun f fn hf hfn => by
      obtain rfl : f = 4 := Option.some.inj ((show Tryd.prog.funcNamed Rows.deskReadsUptoRow.func = some 4 by kernel_rfl).symm.trans hf) |>.symm
      obtain rfl : fn = Tryd.f4 := (Option.some.inj (Tryd.func4.symm.trans hfn)).symm
      exact ⟨by kernel_rfl, fun j t ht => by
        rw [Tryd.params4] at ht
        have hm : t ∈ [9] := by simpa using Array.mem_of_getElem? ht
        have hall : ([9].all fun u => !Tryd.prog.wantsStandIn u) = true := by kernel_rfl
        exact (show Tryd.prog.wantsStandIn t = false by simpa using List.all_eq_true.1 hall t hm)⟩)
    (by kernel_rfl)

end deskReads

theorem deskReadsUpto_holds : Rows.DeskReadsUptoCardSaid := deskReads.card
#print axioms deskReadsUpto_holds
end Go.Proofs.YtaimgddhbkcikapDoor
