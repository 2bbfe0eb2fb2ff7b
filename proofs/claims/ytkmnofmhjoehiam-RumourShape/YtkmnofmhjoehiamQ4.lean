/-
  Configs, plain: which may not be; a slice of numbers, opened.
-/
import Derived.Test.YtkmnofmhjoehiamQ2
namespace Go.Proofs.Ytkmnofmhjoehiam
open Go.RowKit Go.Shelf

namespace Plain
theorem may_no (c : Cf) (h : (c.n < 1 ∨ 8 < c.n ∨ (4 : Int) < (c.ls.length : Int) ∨ c.t < 1 ∨ 8 < c.t ∨ (c.ms.length : Int) < 1 ∨ (3 : Int) < (c.ms.length : Int) ∨ c.cap < 0 ∨ 1048576 < c.cap) ∨ c.ls.all (labB c.n) = false ∨ c.ms.all cntB = false) : mayC c = false := by
  cases hm : mayC c with
  | false => rfl
  | true =>
    exfalso
    obtain ⟨h1, h2, h3, h4, h5, h6, h7⟩ := may_all hm
    rw [h3, h6] at h
    have h : (c.n < 1 ∨ 8 < c.n ∨ (4 : Int) < (c.ls.length : Int) ∨ c.t < 1 ∨ 8 < c.t ∨ (c.ms.length : Int) < 1 ∨ (3 : Int) < (c.ms.length : Int) ∨ c.cap < 0 ∨ 1048576 < c.cap) := by simpa using h
    omega
theorem may_yes (c : Cf) (h : ¬ (c.n < 1 ∨ 8 < c.n ∨ (4 : Int) < (c.ls.length : Int) ∨ c.t < 1 ∨ 8 < c.t ∨ (c.ms.length : Int) < 1 ∨ (3 : Int) < (c.ms.length : Int) ∨ c.cap < 0 ∨ 1048576 < c.cap)) (h1 : c.ls.all (labB c.n) = true) (h2 : c.ms.all cntB = true) : mayC c = true := by
  unfold mayC labsB
  rw [h1, h2]
  simp only [inR, Bool.and_eq_true, decide_eq_true_eq]
  refine ⟨?_, ?_, ?_, ?_, ?_, ?_⟩ <;> first | omega | trivial | (refine ⟨?_, trivial⟩; omega)
theorem all_takeI (p : Int → Bool) (l : List Int) (k : Nat) (h : k < l.length) (h1 : (l.take k).all p = true) (h2 : p (l.getD k 0) = true) : (l.take (k + 1)).all p = true := by
  rw [List.take_succ_eq_append_getElem h, List.all_append, h1]
  simp [List.getD_eq_getElem?_getD, List.getElem?_eq_getElem h] at h2 ⊢
  exact h2
theorem all_noI (p : Int → Bool) (l : List Int) (k : Nat) (h : k < l.length) (h2 : p (l.getD k 0) = false) : l.all p = false := by
  simp [List.getD_eq_getElem?_getD, List.getElem?_eq_getElem h] at h2
  rw [List.all_eq_false]
  exact ⟨l[k], List.getElem_mem h, by simp [h2]⟩
end Plain

theorem seg_at {w : World} {p : Option Addr} {c : Nat} {l : List Int} (h : Seg w (.slice p l.length c) l) (h0 : 0 < l.length) : ∃ b off, p = some ⟨b, off, none⟩ ∧ ∀ j, j < l.length → w.cell? ⟨b, off + j, none⟩ = some (.int .i64 (l.getD j 0)) := by
  rcases h with ⟨rfl, _⟩ | ⟨b, o, c, e, g⟩
  · simp at h0
  · injection e with e1 e2 e3
    exact ⟨b, o, e1, g⟩
end Go.Proofs.Ytkmnofmhjoehiam
