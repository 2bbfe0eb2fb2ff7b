/-
  desk.Read: the step that a line is of.
-/
import Derived.Test.YtaimgddhbkcikapDoorDD
namespace Go.Proofs.YtaimgddhbkcikapDoor
open Go Go.RowKit Go.Sort Go.Shelf
open Plain
set_option maxRecDepth 100000

/-- Is the line the one of what was guessed? -/
def reads (l : List UInt8) : Bool := decide (shE (guessP l) = 0) && decide (shL (guessP l) = l)
def rdS (l : List UInt8) : Sp := if reads l then guessP l else ⟨0, 0, 0, 0, 0, 0, 0, 0⟩
def rdE (l : List UInt8) : Int := if reads l then 0 else 4

set_option maxHeartbeats 8000000 in
theorem read_c (l : List UInt8) (hl : l.length ≤ 281474976710656) (w : World) (hE : EnvR w.heap.size w) : Calls Tryd.prog 9 #[bs l] w fun e w' => e = .returned (.tuple #[.agg (stC (rdS l)), .int .i64 (rdE l)]) ∧ Below w.heap.size w w' := by
  obtain ⟨RS, hRS⟩ : ∃ RS, RS = rdS l := ⟨_, rfl⟩
  obtain ⟨RE, hRE⟩ : ∃ RE, RE = rdE l := ⟨_, rfl⟩
  have HRS := hid hRS
  have HRE := hid hRE
  rw [← hRS, ← hRE]
  clear hRS hRE
  obtain ⟨WA, hWA⟩ : ∃ WA, WA = w.alloc (.cells #[.int .i64 0, .int .i64 0, .int .i64 0, .int .i64 0, .int .i64 0, .int .i64 0, .int .i64 0, .int .i64 0] 23) := ⟨_, rfl⟩
  have BA := hid (show Below w.heap.size w WA by rw [hWA]; exact (Below.refl _ _).alloc (Nat.le_refl _) _)
  have EA := hid (hE.on BA.out)
  have XA := hid (show BoxS WA w.heap.size ⟨0, 0, 0, 0, 0, 0, 0, 0⟩ by rw [hWA]; unfold BoxS; show (w.heap.push _)[w.heap.size]? = _; simp)
  have KG := hid (guess_c l hl WA EA.out.up)
  rw [hWA] at KG
  obtain ⟨G, hG⟩ : ∃ G, G = guessP l := ⟨_, rfl⟩
  have HG := hid hG
  have GI := hid (show InSp G by rw [hG]; exact guessP_in l)
  rw [← hG] at KG
  clear hE hG
  go_enter Tryd.func9, Tryd.ntmps9
  go_wp2_with fail
  refine KG.out.mono ?_
  rintro e w1 ⟨rfl, b1⟩
  rw [← hWA] at b1
  have E1 := hid (EA.out.on (b1.mono BA.out.size))
  have X1 := hid (XA.out.keep (b1.block _ XA.out.lt))
  have B1 := hid (BA.out.trans (b1.mono BA.out.size))
  clear KG hWA BA EA XA b1
  obtain ⟨N, hN⟩ : ∃ N, N = w1.heap.size := ⟨_, rfl⟩
  obtain ⟨WB, hWB⟩ : ∃ WB, WB = w1.alloc (.cells (stC G) 23) := ⟨_, rfl⟩
  have bb : Below N w1 WB := by rw [hWB, hN]; exact (Below.refl _ _).alloc (Nat.le_refl _) _
  have hN0 : w.heap.size < N := by rw [hN]; exact X1.out.lt
  have EB := hid (E1.out.on (bb.mono (Nat.le_of_lt hN0)))
  have XB := hid (X1.out.keep (bb.block _ hN0))
  have YB := hid (show BoxS WB N G by rw [hWB, hN]; unfold BoxS; show (w1.heap.push _)[w1.heap.size]? = _; simp)
  have BB := hid (B1.out.trans (bb.mono (Nat.le_of_lt hN0)))
  have KS := hid (show_c G GI.out WB EB.out.up.env)
  rw [hWB] at KS
  obtain ⟨SL, hSL⟩ : ∃ SL, SL = shL G := ⟨_, rfl⟩
  obtain ⟨SE, hSE⟩ : ∃ SE, SE = shE G := ⟨_, rfl⟩
  rw [← hSL, ← hSE] at KS
  have HSL := hid hSL
  have HSE := hid hSE
  clear hSL hSE bb E1 X1 B1
  go_wp2_with fail
  refine KS.out.mono ?_
  rintro e w2 ⟨rfl, b2⟩
  rw [← hN]
  rw [← hWB] at b2
  have hltN : N < WB.heap.size := YB.out.lt
  have X2 := hid (XB.out.keep (b2.block _ (by omega)))
  have Y2 := hid (YB.out.keep (b2.block _ hltN))
  have B2 := hid (BB.out.trans (b2.mono BB.out.size))
  clear KS hWB hN XB YB BB EB b2
  obtain ⟨x0, x1, x2, x3, x4, x5, x6, x7⟩ := Y2.out.cell
  obtain ⟨z0, z1, z2, z3, z4, z5, z6, z7⟩ := X2.out.cell
  simp only at z0 z1 z2 z3 z4 z5 z6 z7
  have q0 := frozen_block X2.out 0
  have q1 := frozen_block X2.out 1
  have q2 := frozen_block X2.out 2
  have q3 := frozen_block X2.out 3
  have q4 := frozen_block X2.out 4
  have q5 := frozen_block X2.out 5
  have q6 := frozen_block X2.out 6
  have q7 := frozen_block X2.out 7
  by_cases hse : SE = 0
  · by_cases hsl : SL = l
    · have hr : reads l = true := by
        unfold reads
        rw [← HG.out, ← HSE.out, ← HSL.out, hse, hsl]
        simp
      have hse' : (SE != 0) = false := by rw [hse]; rfl
      subst hse hsl
      go_wp2_with fail
      obtain ⟨W9, hW9⟩ : ∃ W9, W9 = ((((((((w2.setCell ⟨w.heap.size, 0, none⟩ (.int .i64 G.kd)).setCell ⟨w.heap.size, 1, none⟩ (.int .i64 G.wh)).setCell ⟨w.heap.size, 2, none⟩ (.int .i64 G.it)).setCell ⟨w.heap.size, 3, none⟩ (.int .i64 G.ct)).setCell ⟨w.heap.size, 4, none⟩ (.int .i64 G.lf)).setCell ⟨w.heap.size, 5, none⟩ (.int .i64 G.id)).setCell ⟨w.heap.size, 6, none⟩ (.int .i64 G.lb)).setCell ⟨w.heap.size, 7, none⟩ (.int .i64 G.ky)) := ⟨_, rfl⟩
      rw [← hW9]
      have h9 : W9 = putP w2 w.heap.size G := hW9
      have X9 : BoxS W9 w.heap.size G := by rw [h9]; exact putP_box X2.out _
      have B9 : Below w.heap.size w W9 := by rw [h9]; exact putP_below B2.out (Nat.le_refl _) _
      clear hW9 h9
      refine bodyPost_P2 rfl w.heap.size G rfl X9 rfl ⟨?_, B9⟩
      rw [HRS.out, HRE.out, rdS, rdE, hr, HG.out]
      rfl
    · have hr : reads l = false := by
        unfold reads
        rw [← HG.out, ← HSL.out]
        simp [hsl]
      have hb : (SL == l) = false := by simpa using hsl
      subst hse
      go_wp2_with fail
      obtain ⟨W9, hW9⟩ : ∃ W9, W9 = ((((((((w2.setCell ⟨w.heap.size, 0, none⟩ (.int .i64 0)).setCell ⟨w.heap.size, 1, none⟩ (.int .i64 0)).setCell ⟨w.heap.size, 2, none⟩ (.int .i64 0)).setCell ⟨w.heap.size, 3, none⟩ (.int .i64 0)).setCell ⟨w.heap.size, 4, none⟩ (.int .i64 0)).setCell ⟨w.heap.size, 5, none⟩ (.int .i64 0)).setCell ⟨w.heap.size, 6, none⟩ (.int .i64 0)).setCell ⟨w.heap.size, 7, none⟩ (.int .i64 0)) := ⟨_, rfl⟩
      rw [← hW9]
      have h9 : W9 = putP w2 w.heap.size ⟨0, 0, 0, 0, 0, 0, 0, 0⟩ := hW9
      have X9 : BoxS W9 w.heap.size ⟨0, 0, 0, 0, 0, 0, 0, 0⟩ := by rw [h9]; exact putP_box X2.out _
      have B9 : Below w.heap.size w W9 := by rw [h9]; exact putP_below B2.out (Nat.le_refl _) _
      clear hW9 h9
      refine bodyPost_P2 rfl w.heap.size ⟨0, 0, 0, 0, 0, 0, 0, 0⟩ rfl X9 rfl ⟨?_, B9⟩
      rw [HRS.out, HRE.out, rdS, rdE, hr]
      rfl
  · have hr : reads l = false := by
      unfold reads
      rw [← HG.out, ← HSE.out]
      simp [hse]
    have hse' : (SE != 0) = true := by simpa using hse
    go_wp2_with fail
    obtain ⟨W9, hW9⟩ : ∃ W9, W9 = ((((((((w2.setCell ⟨w.heap.size, 0, none⟩ (.int .i64 0)).setCell ⟨w.heap.size, 1, none⟩ (.int .i64 0)).setCell ⟨w.heap.size, 2, none⟩ (.int .i64 0)).setCell ⟨w.heap.size, 3, none⟩ (.int .i64 0)).setCell ⟨w.heap.size, 4, none⟩ (.int .i64 0)).setCell ⟨w.heap.size, 5, none⟩ (.int .i64 0)).setCell ⟨w.heap.size, 6, none⟩ (.int .i64 0)).setCell ⟨w.heap.size, 7, none⟩ (.int .i64 0)) := ⟨_, rfl⟩
    rw [← hW9]
    have h9 : W9 = putP w2 w.heap.size ⟨0, 0, 0, 0, 0, 0, 0, 0⟩ := hW9
    have X9 : BoxS W9 w.heap.size ⟨0, 0, 0, 0, 0, 0, 0, 0⟩ := by rw [h9]; exact putP_box X2.out _
    have B9 : Below w.heap.size w W9 := by rw [h9]; exact putP_below B2.out (Nat.le_refl _) _
    clear hW9 h9
    refine bodyPost_P2 rfl w.heap.size ⟨0, 0, 0, 0, 0, 0, 0, 0⟩ rfl X9 rfl ⟨?_, B9⟩
    rw [HRS.out, HRE.out, rdS, rdE, hr]
    rfl
end Go.Proofs.YtaimgddhbkcikapDoor
