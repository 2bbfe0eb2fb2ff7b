/-
  A step that came in.
-/
import Derived.Test.YtaimgddhbkcikapDoorD9
namespace Go.Proofs.YtaimgddhbkcikapDoor
open Go Go.RowKit Go.ChangeShapes Go.WideShapes Go.ChangeAt
open Plain
set_option maxRecDepth 100000

theorem Env.up {B : Nat} {w : World} (h : Env B w) : Env w.heap.size w := ⟨h.wd, h.wd.lt, Lib.tabBelow_of_tabIs h.tab.here, Nat.le_refl _⟩
/-- The fields of a step's type. -/
def FieldsP (fs : Array Field) : Prop := fs.size = 8 ∧ ∀ (j : Nat) (f : Field), fs[j]? = some f → f.offset = j ∧ Tryd.prog.cellsOf f.type = 1 ∧ Tryd.prog.underlying f.type = some (.int .i64)
theorem sp_open {H : Type} {enc : TypeId × Value → H} {W : World} {d : DataW H} {p : List MemPlace} {v : Value} {e : TypeId} {base : Nat} {r : Reach} {fs : Array Field}
    (he : Tryd.prog.underlying e = some (.struct fs)) (ce : Tryd.prog.cellsOf e = 8) (hf : FieldsP fs) (hval : Value.okWide Tryd.prog W r base e v)
    (h : DataW.Trod enc Tryd.prog W 0 (fun _ => true) true e v d p) : ∃ x : Sp, v = .agg (stC x) ∧ InSp x := by
  obtain ⟨cs, rfl, hcs⟩ := okWide_struct he hval
  rw [ce] at hcs
  obtain ⟨fuel, hfu⟩ := h
  obtain ⟨xs, k, _, _, _, hxl, hg⟩ := DataW.trod_struct he hfu
  have hint : ∀ j (hj : j < 8), ∃ z : Int, cs[j] = .int .i64 z ∧ In64 z := by
    intro j hj
    have hj2 : fs[j]? = some (fs[j]'(by rw [hf.1]; omega)) := Array.getElem?_eq_getElem _
    have g := hg j _ hj2
    obtain ⟨ho, hc1, hu⟩ := hf.2 j _ hj2
    rw [ho, hc1] at g
    have e2 : ((Value.agg cs).cells.toList.drop j).take 1 = [cs[j]] := by
      show (cs.toList.drop j).take 1 = [cs[j]]
      rw [List.drop_eq_getElem_cons (by simpa using (by omega : j < cs.size))]
      simp
    rw [e2, List.getElem?_eq_getElem (by rw [hxl, hf.1]; omega)] at g
    obtain ⟨z, h3, _, h4⟩ := DataW.trod_int hu g
    simp only [List.cons.injEq, and_true] at h3
    exact ⟨z, h3, bounds_i64 h4⟩
  obtain ⟨a0, b0, c0⟩ := hint 0 (by omega)
  obtain ⟨a1, b1, c1⟩ := hint 1 (by omega)
  obtain ⟨a2, b2, c2⟩ := hint 2 (by omega)
  obtain ⟨a3, b3, c3⟩ := hint 3 (by omega)
  obtain ⟨a4, b4, c4⟩ := hint 4 (by omega)
  obtain ⟨a5, b5, c5⟩ := hint 5 (by omega)
  obtain ⟨a6, b6, c6⟩ := hint 6 (by omega)
  obtain ⟨a7, b7, c7⟩ := hint 7 (by omega)
  refine ⟨⟨a0, a1, a2, a3, a4, a5, a6, a7⟩, ?_, ?_⟩
  · have e : cs = #[cs[0], cs[1], cs[2], cs[3], cs[4], cs[5], cs[6], cs[7]] := by
      apply Array.ext
      · simpa using hcs
      · intro i h1 h2
        rw [hcs] at h1
        match i, h1 with
        | 0, _ => rfl
        | 1, _ => rfl
        | 2, _ => rfl
        | 3, _ => rfl
        | 4, _ => rfl
        | 5, _ => rfl
        | 6, _ => rfl
        | 7, _ => rfl
    rw [e, b0, b1, b2, b3, b4, b5, b6, b7]
  · intro i
    have z : In64 0 := by unfold In64; omega
    rcases i with _ | _ | _ | _ | _ | _ | _ | _ | i
    · exact c0
    · exact c1
    · exact c2
    · exact c3
    · exact c4
    · exact c5
    · exact c6
    · exact c7
    · exact z
theorem step_fields : FieldsP (Tryd.prog.fieldsOf 23) := by
  refine ⟨by kernel_rfl, ?_⟩
  intro j f hj
  simp only [Program.fieldsOf, Tryd.underlying23] at hj
  rcases j with _ | _ | _ | _ | _ | _ | _ | _ | j <;> simp at hj <;> subst hj <;> exact ⟨rfl, by kernel_rfl, Tryd.underlying3⟩
theorem step_under : Tryd.prog.underlying 23 = some (.struct (Tryd.prog.fieldsOf 23)) := by kernel_rfl
end Go.Proofs.YtaimgddhbkcikapDoor
