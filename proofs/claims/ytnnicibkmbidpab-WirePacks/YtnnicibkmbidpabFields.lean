/-
  A slice of fields that came in, as a list.
-/
import Derived.Test.YtnnicibkmbidpabSeg
import Derived.Deep.SlicePairs
import Derived.SizedLaws
namespace Go.Proofs.Ytnnicibkmbidpab
open Go.ChangeShapes Go.WideShapes Go.ChangeAt Go.RowKit Go.Deep

theorem Try.cellsField : Try.prog.cellsOf 46 = 2 := by kernel_rfl
theorem Try.cellsInt : Try.prog.cellsOf 3 = 1 := by kernel_rfl
theorem Try.bytesField : Try.prog.bytesOf 46 = 16 := by kernel_rfl

theorem fields_open {H : Type} {enc : TypeId × Value → H} {W : World} {d : DataW H} {p : List MemPlace} {a : Option Addr} {len cap : Nat}
    (h : DataW.Trod enc Try.prog W 0 (fun _ => true) true 34 (.slice a len cap) d p) :
    ∃ l : List (Int × Int), l.length = len ∧ SegF W (.slice a len cap) l ∧ Lies W.heap.size (.slice a len cap) ∧ (len = 0 ∨ ∃ es sp, d = .slice es sp ∧ es.length = len) := by
  obtain ⟨fuel, hf⟩ := h
  rcases open_slice_pairs Try.underlying34 Try.underlying46 Try.cellsField rfl rfl Try.cellsInt Try.cellsInt hf with ⟨hc, hx⟩ | ⟨x, l, c, m, n, V0, V1, D0, D1, P0, P1, hc, _, hl, hm, hmm, hx, hall⟩
  · simp [Value.cells] at hc
    obtain ⟨rfl, rfl, rfl⟩ := hc
    exact ⟨[], rfl, .inl ⟨rfl, _, _, rfl⟩, lies_nil _ _ _, .inl rfl⟩
  · simp [Value.cells] at hc
    obtain ⟨rfl, rfl, rfl⟩ := hc
    simp only [if_true] at hmm
    subst hmm
    simp only [Prod.mk.injEq] at hx
    obtain ⟨rfl, rfl⟩ := hx
    have hint0 : ∀ i, i < m → ∃ N, V0 i = .int .i64 N := fun i hi => by
      obtain ⟨N, h1, _, _⟩ := DataW.trod_int Try.underlying3 (hall i hi).2.2.1
      simp only [List.cons.injEq, and_true] at h1
      exact ⟨N, h1⟩
    have hint1 : ∀ i, i < m → ∃ N, V1 i = .int .i64 N := fun i hi => by
      obtain ⟨N, h1, _, _⟩ := DataW.trod_int Try.underlying3 (hall i hi).2.2.2
      simp only [List.cons.injEq, and_true] at h1
      exact ⟨N, h1⟩
    obtain ⟨A, hA⟩ : ∃ A : Nat → Int, ∀ i, i < m → V0 i = .int .i64 (A i) := ⟨fun i => if h : i < m then (hint0 i h).choose else 0, fun i hi => by show V0 i = .int .i64 (if h : i < m then (hint0 i h).choose else 0); rw [dif_pos hi]; exact (hint0 i hi).choose_spec⟩
    obtain ⟨B, hB⟩ : ∃ B : Nat → Int, ∀ i, i < m → V1 i = .int .i64 (B i) := ⟨fun i => if h : i < m then (hint1 i h).choose else 0, fun i hi => by show V1 i = .int .i64 (if h : i < m then (hint1 i h).choose else 0); rw [dif_pos hi]; exact (hint1 i hi).choose_spec⟩
    refine ⟨(List.range len).map (fun i => (A i, B i)), by simp, ?_⟩
    by_cases h0 : len = 0
    · subst h0
      exact ⟨.inl ⟨rfl, _, _, rfl⟩, lies_nil _ _ _, .inl rfl⟩
    · obtain ⟨sb, so, spot⟩ := x
      have hspot : spot = none := by simpa [Addr.add] using World.cell?_spot (hall 0 (by omega)).1
      subst hspot
      have hc0 : ∀ i, i < m → W.cell? ⟨sb, so + i * 2, none⟩ = some (.int .i64 (A i)) := fun i hi => by
        have := (hall i hi).1
        rw [hA i hi] at this
        by_cases e : i = 0
        · subst e; simpa [Addr.add] using this
        · have e2 : ¬ i * 2 = 0 := by omega
          simpa [Addr.add, e2] using this
      have hc1 : ∀ i, i < m → W.cell? ⟨sb, so + i * 2 + 1, none⟩ = some (.int .i64 (B i)) := fun i hi => by
        have := (hall i hi).2.1
        rw [hB i hi] at this
        simpa [Addr.add, Nat.add_assoc] using this
      refine ⟨.inr ⟨sb, so, m, by simp, fun j hj => ?_⟩, lies_at (World.block_lt_of_cell? (w := W) (h := hc0 0 (by omega))), .inr ⟨_, _, rfl, by simp⟩⟩
      simp only [List.length_map, List.length_range] at hj
      have e : ((List.range len).map (fun i => (A i, B i))).getD j (0, 0) = (A j, B j) := by simp [hj]
      rw [e]
      exact ⟨hc0 j (by omega), hc1 j (by omega)⟩
end Go.Proofs.Ytnnicibkmbidpab
