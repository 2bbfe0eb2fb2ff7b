/-
  The map of a step's fields: desk.fields, whatever the order in which its entries are laid.
-/
import Derived.Test.YtaimgddhbkcikapDoorChecked
import Derived.Test.YtaimgddhbkcikapDoorD0
import Derived.WalkKit
import Derived.BigCall
import Derived.BigRegion
import Derived.Carry
import Derived.MapKept
import Derived.Maps.Own
import Derived.Lib.Walk
import Derived.Below
import Derived.BigGuard
namespace Go.Proofs.YtaimgddhbkcikapDoor
open Go Go.RowKit Go.MapKept

/-- The letters, in the order of the fields. -/
def keyA (j : Nat) : Int := [119, 105, 99, 116, 110, 108, 107].getD j 0
/-- Where a field lies. -/
abbrev ptrA (b o j : Nat) : Value := .pointer (some ⟨b, o + (1 + j), none⟩)
theorem findNow_snoc (kind : TypeDesc) (k : Value) (e : MapEntry) : ∀ (es : List MapEntry) (i : Nat), Instr.findNow kind k es i = some none → Instr.findNow kind k (es ++ [e]) i = Instr.findNow kind k [e] (i + es.length)
  | [], i, _ => by simp
  | x :: es, i, h => by
    simp only [Instr.findNow, List.cons_append] at h ⊢
    split at h
    · cases h
    · have := findNow_snoc kind k e es (i + 1) h
      rename_i h1
      rw [this, List.length_cons, show i + 1 + es.length = i + (es.length + 1) by omega]
      rfl
    · cases h
theorem findNow_keep (kind : TypeDesc) (k : Value) (e : MapEntry) : ∀ (es : List MapEntry) (i : Nat) (r : Nat × Value), Instr.findNow kind k es i = some (some r) → Instr.findNow kind k (es ++ [e]) i = some (some r)
  | [], i, _, h => by simp [Instr.findNow] at h
  | x :: es, i, r, h => by
    simp only [Instr.findNow, List.cons_append] at h ⊢
    split at h
    · exact h
    · exact findNow_keep kind k e es (i + 1) r h
    · cases h

/-- Block M is a map: of the letters that m names it has the field's place, of the others nothing. -/
def MpI (w : World) (M b o : Nat) (m : Nat) : Prop :=
  ∃ es ck, w.heap[M]? = some (.map es ck) ∧ ∀ j, j < 7 → if m.testBit j then ∃ i0, Instr.findNow (.int .i32) (.int .i32 (keyA j)) es.toList 0 = some (some (i0, ptrA b o j)) else Instr.findNow (.int .i32) (.int .i32 (keyA j)) es.toList 0 = some none
theorem MpI.made (w : World) (b o : Nat) : MpI (w.alloc (.map #[] 0)) w.heap.size b o 0 :=
  ⟨#[], 0, by show (w.heap.push _)[w.heap.size]? = _; simp, fun j _ => by simp [Instr.findNow]⟩
theorem keyA_ne : ∀ j, j < 7 → ∀ i, i < 7 → i ≠ j → keyA i ≠ keyA j := by decide
theorem bit_set : ∀ m, m < 128 → ∀ j, j < 7 → ∀ i, i < 7 → (m ||| 2 ^ j).testBit i = (m.testBit i || decide (i = j)) := by decide +kernel
theorem key_ok (e : Bool) (k : Int) (w : World) : (Instr.checkKey e 10000 21 (.int .i32 k)).run Tryd.prog w = .ok () w := by
  unfold Instr.checkKey
  simp only [Sem.run_bind, run_underlying Tryd.underlying21, Result.andThen_ok, Sem.run_pure]
theorem bit127 : ∀ j, j < 7 → Nat.testBit 127 j = true := by decide
/-- An entry more. -/
theorem MpI.put {w : World} {M b o m : Nat} (h : MpI w M b o m) (hm : m < 128) {j : Nat} (hj : j < 7) (hb : m.testBit j = false) :
    ∃ w', (Instr.mapUpdate 36 (.map (some M)) (.int .i32 (keyA j)) (ptrA b o j)).run Tryd.prog w = .ok () w' ∧ MpI w' M b o (m ||| 2 ^ j) ∧ (∀ B, B ≤ M → Below B w w') ∧ w'.heap.size = w.heap.size ∧ (∀ k, k ≠ M → w'.heap[k]? = w.heap[k]?) := by
  obtain ⟨es, ck, hM, hf⟩ := h
  have hlt : M < w.heap.size := (Array.getElem?_eq_some_iff.1 hM).1
  have hn := hf j hj
  rw [hb] at hn
  simp only [Bool.false_eq_true, if_false] at hn
  refine ⟨{ w with heap := w.heap.setIfInBounds M (.map (es.push { key := .int .i32 (keyA j), val := ptrA b o j, born := ck }) (ck + 1)) }, ?_, ⟨es.push { key := .int .i32 (keyA j), val := ptrA b o j, born := ck }, ck + 1, by simp [hlt], fun i hi => ?_⟩, fun B hB => ⟨rfl, rfl, rfl, by simp, fun k hk => by simp only; rw [Array.getElem?_setIfInBounds_ne (by omega)]⟩, by simp, fun k hk => by simp only; rw [Array.getElem?_setIfInBounds_ne (Ne.symm hk)]⟩
  · simp only [Instr.mapUpdate, Sem.run_bind, run_underlying Tryd.underlying36, run_underlying Tryd.underlying21, Result.andThen_ok, Go.MapKept.run_getObj_map hM, key_ok, Instr.findKey, hn, Sem.run_pure, Go.MapKept.run_setObj_map _ hM]
  · rw [bit_set m hm j hj i hi, Array.toList_push]
    by_cases he : i = j
    · subst he
      rw [hb]
      simp only [Bool.false_or, decide_true, if_true]
      rw [findNow_snoc _ _ _ _ _ hn]
      exact ⟨0 + es.toList.length, by simp [Instr.findNow, Instr.sameNow]⟩
    · have hi' := hf i hi
      simp only [he, decide_false, Bool.or_false]
      split
      · rename_i hbi
        rw [hbi] at hi'
        simp only [if_true] at hi'
        obtain ⟨i0, hi0⟩ := hi'
        exact ⟨i0, findNow_keep _ _ _ _ _ _ hi0⟩
      · rename_i hbi
        rw [if_neg hbi] at hi'
        rw [findNow_snoc _ _ _ _ _ hi']
        have := keyA_ne j hj i hi he
        have hk : (keyA i == keyA j) = false := by simpa using this
        simp only [Instr.findNow, Instr.sameNow, hk, if_true]
/-- What a letter gives. -/
theorem MpI.look {w : World} {M b o : Nat} (h : MpI w M b o 127) {j : Nat} (hj : j < 7) : (Instr.lookup 36 (.map (some M)) (.int .i32 (keyA j)) false).run Tryd.prog w = .ok (ptrA b o j) w := by
  obtain ⟨es, ck, hM, hf⟩ := h
  have hn := hf j hj
  rw [bit127 j hj] at hn
  simp only [if_true] at hn
  obtain ⟨i0, hn⟩ := hn
  simp only [Instr.lookup, Sem.run_bind, run_underlying Tryd.underlying36, run_underlying Tryd.underlying21, Result.andThen_ok, Go.MapKept.run_getObj_map hM, key_ok, Instr.findKey, hn, Sem.run_pure]
  rfl
theorem MpI.of_block {w w' : World} {M b o m : Nat} (h : MpI w M b o m) (e : w'.heap[M]? = w.heap[M]?) : MpI w' M b o m := by
  obtain ⟨es, ck, hM, hf⟩ := h
  exact ⟨es, ck, e.trans hM, hf⟩
theorem MpI.lt {w : World} {M b o m : Nat} (h : MpI w M b o m) : M < w.heap.size := by
  obtain ⟨es, ck, hM, _⟩ := h
  exact (Array.getElem?_eq_some_iff.1 hM).1
end Go.Proofs.YtaimgddhbkcikapDoor
