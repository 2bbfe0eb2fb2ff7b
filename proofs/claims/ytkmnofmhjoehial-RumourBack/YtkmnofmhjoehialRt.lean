/-
  Plain: what is unpacked, packed again.
-/
import Derived.Test.YtkmnofmhjoehialUnpack
namespace Go.Proofs.Ytkmnofmhjoehial
namespace Plain

/-- The fields that widths and bytes make. -/
def flds (ws : List Int) (bl : List Nat) (k : Nat) : List (Int × Int) := (List.range k).map (fun j => (ws.getD j 0, (valAt ws bl j : Int)))

theorem flds_len (ws : List Int) (bl : List Nat) (k : Nat) : (flds ws bl k).length = k := by simp [flds]
theorem flds_succ (ws : List Int) (bl : List Nat) (k : Nat) : flds ws bl (k + 1) = flds ws bl k ++ [(ws.getD k 0, (valAt ws bl k : Int))] := by simp [flds, List.range_succ]

theorem list_ext {α : Type} (d : α) (l m : List α) (h : l.length = m.length) (e : ∀ j, j < l.length → l.getD j d = m.getD j d) : l = m := by
  apply List.ext_getElem h
  intro j h1 h2
  have := e j h1
  simpa [List.getD_eq_getElem?_getD, List.getElem?_eq_getElem h1, List.getElem?_eq_getElem h2] using this

theorem flds_fst (ws : List Int) (bl : List Nat) : (flds ws bl ws.length).map Prod.fst = ws := by
  apply list_ext 0
  · simp [flds]
  · intro j hj
    simp [flds] at hj
    simp [flds, hj]

theorem flds_nat (ws : List Int) (bl : List Nat) : (flds ws bl ws.length).map nat2 = (ws.map Int.toNat).zip (vals (bitOf bl) 0 (ws.map Int.toNat)) := by
  apply list_ext (0, 0)
  · simp [flds, vals_len]
  · intro j hj
    simp [flds] at hj
    have e := vals_getD ws bl j hj
    have h1 : j < (vals (bitOf bl) 0 (ws.map Int.toNat)).length := by rw [vals_len, List.length_map]; exact hj
    rw [List.getD_eq_getElem?_getD, List.getElem?_eq_getElem h1] at e
    simp only [Option.getD_some] at e
    have h2 : j < ((ws.map Int.toNat).zip (vals (bitOf bl) 0 (ws.map Int.toNat))).length := by rw [List.length_zip, vals_len, List.length_map]; omega
    rw [List.getD_eq_getElem?_getD, List.getD_eq_getElem?_getD, List.getElem?_eq_getElem h2]
    simp [flds, nat2, hj, ← e]

theorem flds_fit (ws : List Int) (bl : List Nat) : (flds ws bl ws.length).all fitB = true := by
  rw [List.all_eq_true]
  intro f hf
  simp only [flds, List.mem_map, List.mem_range] at hf
  obtain ⟨j, _, rfl⟩ := hf
  have := num_lt (bitOf bl) (bitOf_lt bl) (bitsN (ws.take j)) (ws.getD j 0).toNat
  unfold fitB
  simp only [Bool.and_eq_true, decide_eq_true_eq]
  refine ⟨by omega, ?_⟩
  have e : ((2 : Int) ^ (ws.getD j 0).toNat) = ((2 ^ (ws.getD j 0).toNat : Nat) : Int) := by simp
  rw [e]
  unfold valAt
  omega

/-- The first T bits of bytes, as bytes: these bytes just if no other bit is 1. -/
theorem bytes_back (bl : List Nat) (hb : ∀ x ∈ bl, x < 256) (T : Nat) :
    bytesOf ((List.range T).map (bitOf bl)) bl.length = bl ↔ num (bitOf bl) T (8 * bl.length - T) = 0 := by
  have hget : ∀ j, j < bl.length → bl.getD j 0 < 256 := fun j hj => hb _ (by rw [List.getD_eq_getElem?_getD, List.getElem?_eq_getElem hj]; exact List.getElem_mem hj)
  have hat : ∀ p, at0 ((List.range T).map (bitOf bl)) p = if p < T then bitOf bl p else 0 := by
    intro p
    unfold at0
    by_cases h : p < T
    · simp [h]
    · simp [h]
  have hat2 : ∀ p, at0 ((List.range T).map (bitOf bl)) p < 2 := by
    intro p; rw [hat]; have := bitOf_lt bl p; split <;> omega
  constructor
  · intro e
    rw [num_zero]
    intro i hi
    have h := bitOf_bytesOf _ hat2 bl.length (T + i) (by omega)
    rw [e, hat, if_neg (by omega)] at h
    exact h
  · intro e
    rw [num_zero] at e
    apply list_ext 0
    · rw [bytesOf_len]
    · intro j hj
      rw [bytesOf_len] at hj
      rw [getD_bytesOf _ _ _ hj, ← byteOf_bitOf bl j (hget j hj)]
      refine byteOf_congr _ _ _ fun t ht => ?_
      rw [hat]
      by_cases c : 8 * j + t < T
      · rw [if_pos c]
      · rw [if_neg c]
        have := e (8 * j + t - T) (by omega)
        rw [show T + (8 * j + t - T) = 8 * j + t by omega] at this
        exact this.symm

theorem again (ws : List Int) (bl : List Nat) (hz : szE ws = 0) (hl : bl.length = szN ws) (hb : ∀ x ∈ bl, x < 256) :
    packE (flds ws bl ws.length) = 0 ∧ (packB (flds ws bl ws.length) = bl ↔ num (bitOf bl) (bitsN ws) (8 * szN ws - bitsN ws) = 0) := by
  obtain ⟨h1, h2⟩ := packE_ok (flds ws bl ws.length) (by rw [flds_fst]; exact hz) (flds_fit ws bl)
  refine ⟨h1, ?_⟩
  rw [h2, flds_nat, flds_fst, rbits_vals _ (bitOf_lt bl), ← hl]
  have := bytes_back bl hb (bitsN ws)
  simp only [Nat.zero_add]
  exact this
end Plain
end Go.Proofs.Ytkmnofmhjoehial
