/- A line that is read is the one of what was read: for every line, what desk.Read answers has that very line by desk.Show, or the error ErrForm stands beside a step of zeros; and one line is read as the document says. (A tied card: the table of words, the library's table of powers and its two errors hold what the program's text lays.) -/
import Derived.Test.YtaimgddhbkcikapDoorRows
import Derived.Test.YtaimgddhbkcikapDoorCards
import Derived.Test.YtaimgddhbkcikapDoorTie
import Derived.WalkKit
import Derived.ProofKit
import Derived.LaidMore
import Derived.OpenShut
import Derived.Stop.Joined
import Derived.WalkSmall
import Derived.ShutString
import Derived.ChangeOld
import Derived.Below
import Derived.SizedLaws
import Derived.SevenTiedAt
import Derived.ChangeMaps5
import Derived.Test.YtaimgddhbkcikapDoorDF
import Derived.Test.YtaimgddhbkcikapDoorDA
namespace Go.Proofs.YtaimgddhbkcikapDoor
namespace lineFixed
open Go Go.ChangeShapes Go.WideShapes Go.ChangeAt Go.RowKit Go.Sort Go.Shelf
open Plain
set_option linter.unusedVariables false

theorem own : ownKnob Tryd.prog.godebug = none := by kernel_rfl
theorem laidOut : laidOutB Tryd.prog = true := by kernel_rfl
/-- The heap that the door leaves meets the list. -/
theorem door_met (os : Os) (args : Array Value) : laidMetH Tryd.prog Rows.lineFixedRow.laid ((World.doorLaid Tryd.prog 4000 os).forCall (fun _ _ => 0) ⟨#[], args, []⟩).memory :=
  laidMetH_of_parts3 (fuel := 8) (laidMet_of_run' 8 (by kernel_rfl) (by kernel_rfl)) (by kernel_rfl) (by kernel_rfl)

set_option maxHeartbeats 4000000 in
set_option maxRecDepth 100000 in
theorem walk (w : World) (hE : EnvR w.heap.size w) (l0 : List UInt8) (w0 : l0.length ≤ 281474976710656) :
    Calls Tryd.prog 6 #[bs l0] w fun e w' => e = .returned (.bool true) ∧ Below w.heap.size w w' := by
  obtain ⟨RS, hRS⟩ : ∃ RS, RS = rdS l0 := ⟨_, rfl⟩
  obtain ⟨RE, hRE⟩ : ∃ RE, RE = rdE l0 := ⟨_, rfl⟩
  have K1 := hid (read_c l0 w0 w hE)
  rw [← hRS, ← hRE] at K1
  have HRS := hid hRS
  have HRE := hid hRE
  have HI := hid (show InSp RS by rw [hRS]; exact rdS_in l0)
  have HEE := hid hE
  clear hRS hRE hE
  go_enter Tryd.func6, Tryd.ntmps6
  go_wp2_with fail
  refine K1.out.mono ?_
  rintro e w1 ⟨rfl, b1⟩
  have E1 := hid (HEE.out.on b1)
  have B1 := hid b1
  obtain ⟨N, hN⟩ : ∃ N, N = w1.heap.size := ⟨_, rfl⟩
  obtain ⟨WB, hWB⟩ : ∃ WB, WB = w1.alloc (.cells (stC RS) 23) := ⟨_, rfl⟩
  have bb : Below N w1 WB := by rw [hWB, hN]; exact (Below.refl _ _).alloc (Nat.le_refl _) _
  have hle : w.heap.size ≤ N := by rw [hN]; exact b1.size
  have EB := hid (E1.out.on (bb.mono hle))
  have YB := hid (show BoxS WB N RS by rw [hWB, hN]; unfold BoxS; show (w1.heap.push _)[w1.heap.size]? = _; simp)
  have BB := hid (B1.out.trans (bb.mono hle))
  have K2 := hid (read_c holdL (by decide) WB EB.out.up)
  rw [hold_rd.1, hold_rd.2] at K2
  have K2' := hid (show Calls Tryd.prog 9 #[.string ⟨#[104, 111, 108, 100, 32, 49, 32, 48, 32, 45, 55, 32, 51]⟩] (w1.alloc (.cells (stC RS) 23)) _ by rw [← hWB]; exact K2.out)
  clear b1 bb K1 K2 E1 B1
  go_wp2_with fail
  refine K2'.out.mono ?_
  rintro e w2 ⟨rfl, b2⟩
  rw [← hN]
  have hltN : N < WB.heap.size := YB.out.lt
  have E2 := hid (EB.out.on (b2.mono (by omega)))
  have Y2 := hid (YB.out.keep (b2.block _ hltN))
  have B2 := hid (BB.out.trans (b2.mono BB.out.size))
  have hN2 : N < w2.heap.size := Y2.out.lt
  clear K2' hWB hN YB BB EB b2
  obtain ⟨M, hM⟩ : ∃ M, M = w2.heap.size := ⟨_, rfl⟩
  obtain ⟨WC, hWC⟩ : ∃ WC, WC = w2.alloc (.cells (stC ⟨3, 1, 0, -7, 3, 0, 0, 0⟩) 23) := ⟨_, rfl⟩
  have bc : Below M w2 WC := by rw [hWC, hM]; exact (Below.refl _ _).alloc (Nat.le_refl _) _
  have hleM : w.heap.size ≤ M := by omega
  have EC := hid (E2.out.on (bc.mono hleM))
  have YC := hid (Y2.out.keep (bc.block _ (by omega)))
  have BC := hid (B2.out.trans (bc.mono hleM))
  obtain ⟨x0, x1, x2, x3, x4, x5, x6, x7⟩ := YC.out.cell
  rw [hWC] at x0 x1 x2 x3 x4 x5 x6 x7
  clear bc E2 Y2 B2
  by_cases hr : reads l0 = true
  · obtain ⟨r1, r2, r3⟩ := reads_show hr
    have KS := hid (show_c RS HI.out WC EC.out.up.env)
    rw [HRS.out, r1, r2, ← HRS.out, hWC] at KS
    obtain rfl : RE = 0 := by rw [HRE.out]; exact r3
    clear r1 r2 r3
    go_wp2_with fail
    refine KS.out.mono ?_
    rintro e w4 ⟨rfl, b4⟩
    rw [← hWC] at b4
    have B4 := hid (BC.out.trans (b4.mono BC.out.size))
    clear KS b4 hWC
    go_wp2
    go_ret
    exact ⟨rfl, B4.out⟩
  · have hr' : reads l0 = false := by simpa using hr
    obtain ⟨r1, r2⟩ := not_reads hr'
    obtain rfl : RE = 4 := by rw [HRE.out]; exact r2
    obtain rfl : RS = ⟨0, 0, 0, 0, 0, 0, 0, 0⟩ := by rw [HRS.out]; exact r1
    have BC' := hid (show Below w.heap.size w (w2.alloc (.cells (stC ⟨3, 1, 0, -7, 3, 0, 0, 0⟩) 23)) by rw [← hWC]; exact BC.out)
    clear r1 r2 HRE HRS HI hWC
    go_wp2
    go_ret
    exact ⟨rfl, BC'.out⟩

set_option maxRecDepth 100000 in
theorem lifted (os : Os) (started : os.Started) (H : Type) (enc : TypeId × Value → H) :
    ReturnsInHanded {} Tryd.checked os 6 .any (fun w args => (Rows.lineFixedSpec.pre enc Tryd.prog Tryd.f6 [] false w args ∧ laidMetH Tryd.prog Rows.lineFixedRow.laid w) ∧ sizedMet enc Tryd.prog Tryd.f6 (OpenSpec.ofChange Rows.lineFixedSpec) false w args)
      (Rows.lineFixedSpec.post enc Tryd.prog Tryd.f6 false true false false) := by
  refine returnsInHanded_of_change_and (C := Tryd.checked) (X := fun w _ => laidMetH Tryd.prog Rows.lineFixedRow.laid w) (fun _ _ _ hh h => h.of_heap hh) own started (by kernel_rfl) Tryd.func6
    (ChangeSpec.witness_shaped (enc := enc) (C := Tryd.checked) (os := os) (X := fun w _ => laidMetH Tryd.prog Rows.lineFixedRow.laid w) false (World.doorLaid Tryd.prog 4000 os) #[.string ⟨#[]⟩] 8 rfl (World.shaped_of_RefB (by kernel_rfl) (by kernel_rfl)) (by kernel_rfl) (by kernel_rfl) (by kernel_rfl) (door_met os _)) ?_
  intro W base args ds gs before hval0 hW _ hwt hL _
  have hval : ∀ (j : Nat) t v, Tryd.f6.params[j]? = some t → args[j]? = some v → Value.okWide Tryd.prog W .any base t v := hval0
  have hW' := hW
  obtain ⟨p, q, hA0, hV, rfl, hfz, hnd⟩ := hW
  have hA : DataW.TrodAll enc Tryd.prog W 0 (fun _ => true) true Tryd.f6.params.toList args.toList ds p := hA0
  rw [Tryd.params6] at hA hval
  obtain ⟨v0, vs0, d0, ds0, p0, q0, hargs, rfl, rfl, h0, r0⟩ := trodAll_cons hA
  obtain ⟨rfl, rfl, rfl⟩ := trodAll_nil r0
  obtain rfl : args = #[v0] := by cases args; simp_all
  obtain ⟨rfl, rfl⟩ := trodVars_none hV
  have k0 := h0
  have lt0 : ∀ x ∈ p0, x.block < W.heap.size := by obtain ⟨m, hm⟩ := k0; exact DataW.trod_lt m _ _ _ hm
  obtain ⟨s0, rfl, e0, _, _⟩ := Go.ChangeMaps.open_string Tryd.underlying9 (hval 0 9 v0 rfl rfl) h0
  subst e0
  have w0 : s0.data.toList.length ≤ 281474976710656 := by
    have h1 := sized_string hwt (j := 0) (t := 9) rfl rfl
    have h2 := reachBytes_lt
    omega
  clear hA0 hval0
  refine (walk W (env6f hL) s0.data.toList w0).mono fun e W' ⟨he, bel⟩ => ?_
  subst he
  exact ⟨_, rfl, _, _, _, [], _, [], hW', trodAll_mk1 (shut_bool Tryd.underlying4 _), (trodAll_cons_mk (Below.trod laidOut (by kernel_rfl) (of_decide_eq_true (by kernel_rfl)) k0 bel lt0) trodAll_mk0), rfl, bel.frame _, fun h => by cases h⟩

theorem over : Rows.lineFixedRow.holds Tryd.pinned (OpenSpec.ofChange Rows.lineFixedSpec) :=
  OpenClaim.holds_of_wide 6 Tryd.f6 rfl rfl rfl rfl rfl rfl rfl ⟨rfl, rfl, rfl, rfl, rfl⟩ rfl rfl rfl rfl rfl (by kernel_rfl) Tryd.func6 (by kernel_rfl)
    (of_decide_eq_true (by kernel_rfl)) (by unfold Func.isWrapper; first | (rw [if_pos (by decide +kernel)]; kernel_rfl) | (rw [if_neg (by decide +kernel)]; exact ⟨rfl, rfl⟩))
    (fun os started H enc _ => lifted os started H enc)

theorem card : Claim7.holds Tryd.pinned (.plain (OpenSpec.ofChange Rows.lineFixedSpec)) Rows.lineFixedCard :=
  Claim7.holds_tied_plain_at .later [] [.data, .data, .data, .sentinel, .sentinel, .data] true (true, "fc66d924e0140968b4d1d41dd56604b17fbe8fd7abb1ef3c18bf910fba15aeb6") true over (fun _ h => by cases h) (by kernel_rfl) (fun _ h => by cases h) lineFixed_row_tie rfl ⟨rfl, rfl⟩ (by kernel_rfl) rfl
    (fun f fn hf hfn => by
      obtain rfl : f = 6 := Option.some.inj ((show Tryd.prog.funcNamed Rows.lineFixedRow.func = some 6 by kernel_rfl).symm.trans hf) |>.symm
      obtain rfl : fn = Tryd.f6 := (Option.some.inj (Tryd.func6.symm.trans hfn)).symm
      exact ⟨by kernel_rfl, fun j t ht => by
        rw [Tryd.params6] at ht
        have hm : t ∈ [9] := by simpa using Array.mem_of_getElem? ht
        have hall : ([9].all fun u => !Tryd.prog.wantsStandIn u) = true := by kernel_rfl
        exact (show Tryd.prog.wantsStandIn t = false by simpa using List.all_eq_true.1 hall t hm)⟩)
    (by kernel_rfl)

end lineFixed

theorem lineFixed_holds : Rows.LineFixedCardSaid := lineFixed.card
#print axioms lineFixed_holds
end Go.Proofs.YtaimgddhbkcikapDoor
