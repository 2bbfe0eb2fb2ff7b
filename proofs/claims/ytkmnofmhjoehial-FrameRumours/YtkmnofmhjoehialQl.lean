/-
  Lists of entries that came in.
-/
import Derived.Test.YtkmnofmhjoehialQd
import Derived.Test.YtkmnofmhjoehialEno
namespace Go.Proofs.Ytkmnofmhjoehial
open Go.ChangeShapes Go.WideShapes Go.ChangeAt Go.RowKit Go.Deep

theorem lists_open {H : Type} {enc : TypeId × Value → H} {W : World} {d : DataW H} {p : List MemPlace} {a : Option Addr} {len cap : Nat} {t r e : TypeId} {fs : Array Field}
    (ht : Try.prog.underlying t = some (.slice r)) (hr : Try.prog.underlying r = some (.slice e)) (cr : Try.prog.cellsOf r = 1) (he : Try.prog.underlying e = some (.struct fs)) (ce : Try.prog.cellsOf e = 5) (hf : FieldsN fs)
    (h : DataW.Trod enc Try.prog W 0 (fun _ => true) true t (.slice a len cap) d p) : ∃ st : List (List Plain.En), SegLs W (.slice a len cap) st := by
  obtain ⟨fuel, hfu⟩ := h
  rcases open_slice ht hfu with ⟨h0, _⟩ | ⟨ad, l, c, m, n, D, Pl, hc, _, hl, hm, hmm, _, hx⟩
  · simp [Value.cells] at h0
    obtain ⟨rfl, rfl, rfl⟩ := h0
    exact ⟨[], by decide, _, _, rfl, fun h => by simp at h⟩
  simp [Value.cells] at hc
  obtain ⟨rfl, rfl, rfl⟩ := hc
  have hml : cap ≤ 9223372036854775807 := hm
  have hlm : len ≤ m := by rw [hmm]; split <;> omega
  have key : ∀ i, i < len → ∃ y : Value × List Plain.En, W.cell? (ad.add i) = some y.1 ∧ ElL W y.1 y.2 := by
    intro i hi
    obtain ⟨cs', h1, h2⟩ := hx i (by omega)
    rw [cr, Nat.mul_one] at h1
    obtain ⟨_, hlen, hcell⟩ := World.cells?_some h1
    have h4 := hcell 0 (by omega)
    rw [add_add, Nat.add_zero] at h4
    rcases open_slice hr h2 with ⟨rfl, _⟩ | ⟨ad', l', c', _, _, _, _, rfl, _⟩
    · exact ⟨(_, []), by simpa using h4, .inl ⟨rfl, _, _, rfl⟩, lies_nil _ _ _, by decide⟩
    · obtain ⟨l2, hl2, hm2, s2, y2, _⟩ := ens_open (a := some ad') (len := l') (cap := c') hr he ce hf ⟨_, h2⟩
      exact ⟨(_, l2), by simpa using h4, s2, y2, by rw [hl2]; exact hm2⟩
  by_cases h0 : len = 0
  · subst h0
    exact ⟨[], by decide, _, _, rfl, fun h => by simp at h⟩
  obtain ⟨sb, so, spot⟩ := ad
  obtain ⟨y0, hy0, _⟩ := key 0 (by omega)
  have hspot : spot = none := by simpa [Addr.add] using World.cell?_spot hy0
  subst hspot
  obtain ⟨F, hF⟩ : ∃ F : Nat → Value × List Plain.En, ∀ i, i < len → W.cell? ((⟨sb, so, none⟩ : Addr).add i) = some (F i).1 ∧ ElL W (F i).1 (F i).2 :=
    ⟨fun i => if h : i < len then (key i h).choose else (.bool false, []), fun i hi => by
      simp only [dif_pos hi]
      exact (key i hi).choose_spec⟩
  refine ⟨(List.range len).map fun i => (F i).2, by simp; omega, some ⟨sb, so, none⟩, cap, by simp, fun _ => ⟨sb, so, rfl, ?_, fun j hj => ?_⟩⟩
  · rw [add_at] at hy0
    exact World.block_lt_of_cell? (w := W) (h := hy0)
  · rw [List.length_map, List.length_range] at hj
    refine ⟨(F j).1, by rw [← add_at]; exact (hF j hj).1, ?_⟩
    rw [List.getD_eq_getElem?_getD, List.getElem?_map, List.getElem?_range hj]
    exact (hF j hj).2
end Go.Proofs.Ytkmnofmhjoehial
