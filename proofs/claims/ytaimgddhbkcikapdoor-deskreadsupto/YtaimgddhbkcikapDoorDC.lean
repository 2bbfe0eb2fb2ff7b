/-
  desk.kindOf: the kind of a word.
-/
import Derived.Test.YtaimgddhbkcikapDoorDB
import Derived.Deep.MidRow
namespace Go.Proofs.YtaimgddhbkcikapDoor
open Go Go.RowKit Go.Sort Go.Shelf
open Plain
set_option maxRecDepth 100000

/-- The cells of the table. -/
def wdC : List Value := (List.range 12).flatMap fun k => [bs (wordL k), bs (lettL k)]
theorem wdC_len : wdC.length = 24 := rfl
theorem wdC_at (k : Nat) (hk : k < 12) : wdC[k * 2]? = some (bs (wordL k)) ∧ wdC[k * 2 + 1]? = some (bs (lettL k)) := by
  have : k = 0 ∨ k = 1 ∨ k = 2 ∨ k = 3 ∨ k = 4 ∨ k = 5 ∨ k = 6 ∨ k = 7 ∨ k = 8 ∨ k = 9 ∨ k = 10 ∨ k = 11 := by omega
  rcases this with rfl | rfl | rfl | rfl | rfl | rfl | rfl | rfl | rfl | rfl | rfl | rfl <;> exact ⟨rfl, rfl⟩
theorem Wd.range {w : World} (h : Wd w) : w.rangeAt 0 0 wdC := by
  intro j v hv
  have hj : j < 24 := by
    have := (List.getElem?_eq_some_iff.1 hv).1
    rw [wdC_len] at this
    exact this
  have h1 := h (j / 2) (by omega)
  have h2 := wdC_at (j / 2) (by omega)
  rw [Nat.zero_add]
  rcases Nat.mod_two_eq_zero_or_one j with hm | hm
  · rw [show j = j / 2 * 2 by omega] at hv ⊢
    rw [h2.1] at hv
    rw [← hv]
    exact h1.1
  · rw [show j = j / 2 * 2 + 1 by omega] at hv ⊢
    rw [h2.2] at hv
    rw [← hv]
    exact h1.2
theorem wd_index (k : Nat) (hk : k < 12) (w : World) : (Instr.index 35 (.agg wdC.toArray) (.int .i64 (k : Int))).run Tryd.prog w = .ok (.agg #[bs (wordL k), bs (lettL k)]) w := by
  have u := Tryd.underlying35
  have a := Tryd.isAgg34
  have z := Tryd.sizeOf34
  have e : wdC.toArray.extract (k * 2) (k * 2 + 2) = #[bs (wordL k), bs (lettL k)] := by
    have : k = 0 ∨ k = 1 ∨ k = 2 ∨ k = 3 ∨ k = 4 ∨ k = 5 ∨ k = 6 ∨ k = 7 ∨ k = 8 ∨ k = 9 ∨ k = 10 ∨ k = 11 := by omega
    rcases this with rfl | rfl | rfl | rfl | rfl | rfl | rfl | rfl | rfl | rfl | rfl | rfl <;> rfl
  have h0 : (0 : Int) ≤ (k : Int) := by omega
  have h1 : (k : Int) < 12 := by omega
  simp only [Instr.index, asIntOf, Sem.run_bind, Sem.run_pure, Result.andThen_ok, run_underlying u]
  rw [if_pos (by refine ⟨?_, ?_⟩ <;> first | trivial | omega)]
  simp only [part, Sem.run_bind, a, z, Sem.run_pure, Result.andThen_ok, if_true, Int.toNat_natCast, e]

/-- The kind of a word: the first that has it. -/
def kindFrom (l : List UInt8) : Nat → Nat → Nat
  | 0, _ => 0
  | n + 1, k => if wordL k = l then k else kindFrom l n (k + 1)
def kindL (l : List UInt8) : Nat := kindFrom l 12 0
theorem kindFrom_lt (l : List UInt8) : ∀ n k, k + n ≤ 12 → kindFrom l n k < 12
  | 0, _, _ => by simp [kindFrom]
  | n + 1, k, h => by
    simp only [kindFrom]
    split
    · omega
    · exact kindFrom_lt l n (k + 1) (by omega)
theorem kindL_lt (l : List UInt8) : kindL l < 12 := kindFrom_lt l 12 0 (by omega)

set_option maxHeartbeats 4000000 in
theorem kindOf_c (l : List UInt8) (w : World) (hw : Wd w) : Calls Tryd.prog 21 #[bs l] w fun e w' => e = .returned (.int .i64 (kindL l : Int)) ∧ Below w.heap.size w w' := by
  have HI := hid (fun k hk w => wd_index k hk w)
  have HR0 := hid hw.range
  have hsz : (Tryd.prog.info? 35).map (·.size) = some wdC.length := by rw [wdC_len]; kernel_rfl
  have HSZ := hid hsz
  clear hw hsz
  go_enter Tryd.func21, Tryd.ntmps21
  go_upto_region 1 with fail
  refine wp_region_lit ?_
  refine wpList_load_mid rfl _ _ rfl 0 0 rfl wdC _ HR0.out Tryd.underlying35 rfl HSZ.out ?_
  clear HSZ HR0
  generalize wdC.toArray = CA at HI ⊢
  go_wp2_with fail
  go_loopw [6] (fun v wr => ∃ k : Nat, k ≤ 12 ∧ v = .int .i64 (k : Int) ∧ Hid (kindFrom l (12 - k) k = kindL l ∧ Below w.heap.size w wr)) (fun v _ => 12 - (intOf v).toNat)
  case atStart => exact ⟨0, by omega, rfl, hid ⟨rfl, Below.refl _ _⟩⟩
  case round =>
    obtain ⟨k, hk, rfl, HR⟩ := hrel
    by_cases hlt : k < 12
    · have hlt' : (k : Int) < 12 := by omega
      have hidx := HI.out k hlt
      obtain ⟨wd, hwd⟩ : ∃ wd, wd = wordL k := ⟨_, rfl⟩
      obtain ⟨lt, hlt2⟩ : ∃ lt, lt = lettL k := ⟨_, rfl⟩
      rw [← hwd, ← hlt2] at hidx
      have HWD := hid hwd
      clear hwd hlt2
      go_wp2_with fail
      · rename_i h
        have he : wordL k = l := by rw [← HWD.out]; exact eq_of_beq h
        go_ret
        refine ⟨?_, HR.out.2.alloc HR.out.2.size _⟩
        have e2 := HR.out.1
        rw [show 12 - k = (11 - k) + 1 by omega, kindFrom, if_pos he] at e2
        rw [← e2]
        rfl
      · rename_i h
        have he : ¬ wordL k = l := by rw [← HWD.out]; simpa using h
        have e2 := HR.out.1
        rw [show 12 - k = (11 - k) + 1 by omega, kindFrom, if_neg he] at e2
        refine ⟨⟨k + 1, by omega, by go_num, hid ⟨by rw [show 12 - (k + 1) = 11 - k by omega]; exact e2, HR.out.2.alloc HR.out.2.size _⟩⟩, ?_⟩
        simp [intOf]
        omega
    · have hlt' : ¬ ((k : Int) < 12) := by omega
      obtain rfl : k = 12 := by omega
      go_wp2
      go_ret
      exact ⟨by rw [← HR.out.1]; rfl, HR.out.2⟩
end Go.Proofs.YtaimgddhbkcikapDoor
