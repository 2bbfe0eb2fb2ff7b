/-
  Entries that came in: a slice of them, or one.
-/
import Derived.Test.YtkmnofmhjoehiamOs
import Derived.Test.YtkmnofmhjoehiamNw
namespace Go.Proofs.Ytkmnofmhjoehiam
open Go.ChangeShapes Go.WideShapes Go.ChangeAt Go.RowKit Go.Deep

/-- The numbers of an entry are integers of the machine. -/
structure InE (e : Plain.En) : Prop where
  k : -9223372036854775808 ≤ e.key ∧ e.key ≤ 9223372036854775807
  v : -9223372036854775808 ≤ e.value ∧ e.value ≤ 9223372036854775807
  t : -9223372036854775808 ≤ e.time ∧ e.time ≤ 9223372036854775807
  o : -9223372036854775808 ≤ e.who ∧ e.who ≤ 9223372036854775807

/-- The fields of an entry's type. -/
def FieldsN (fs : Array Field) : Prop := fs.size = 5 ∧ ∀ (j : Nat) (f : Field), fs[j]? = some f → f.offset = j ∧ Try.prog.cellsOf f.type = 1 ∧ Try.prog.underlying f.type = some (if j < 4 then .int .i64 else .bool)

theorem ens_open {H : Type} {enc : TypeId × Value → H} {W : World} {d : DataW H} {p : List MemPlace} {a : Option Addr} {len cap : Nat} {t e : TypeId} {fs : Array Field}
    (ht : Try.prog.underlying t = some (.slice e)) (he : Try.prog.underlying e = some (.struct fs)) (ce : Try.prog.cellsOf e = 5) (hf : FieldsN fs)
    (h : DataW.Trod enc Try.prog W 0 (fun _ => true) true t (.slice a len cap) d p) :
    ∃ l : List Plain.En, l.length = len ∧ len ≤ 9223372036854775807 ∧ SegN W (.slice a len cap) l ∧ Lies W.heap.size (.slice a len cap) ∧ ∀ j, j < l.length → InE (Plain.en l j) := by
  obtain ⟨fuel, hfu⟩ := h
  rcases open_slice_structs ht he ce hf.1 (fun j f hj => ⟨(hf.2 j f hj).1, (hf.2 j f hj).2.1⟩) hfu with ⟨rfl, rfl, rfl⟩ | ⟨ad, rfl, hl, hm, hd, hx⟩
  · exact ⟨[], rfl, by decide, .inl ⟨rfl, _, _, rfl⟩, lies_nil _ _ _, fun j hj => by simp at hj⟩
  · have hml : cap ≤ 9223372036854775807 := hm
    have hint : ∀ i j, i < len → j < 4 → ∃ z : Int, W.cell? (ad.add (i * 5 + j)) = some (.int .i64 z) ∧ -9223372036854775808 ≤ z ∧ z ≤ 9223372036854775807 := by
      intro i j hi hj
      have hj2 : fs[j]? = some (fs[j]'(by rw [hf.1]; omega)) := Array.getElem?_eq_getElem _
      obtain ⟨v, n, y, h1, h2⟩ := hx i hi j _ hj2
      have hu := (hf.2 j _ hj2).2.2
      rw [if_pos hj] at hu
      obtain ⟨z, h3, _, h4⟩ := DataW.trod_int hu h2
      simp only [List.cons.injEq, and_true] at h3
      subst h3
      exact ⟨z, h1, bounds_i64 h4⟩
    have hbool : ∀ i, i < len → ∃ z : Bool, W.cell? (ad.add (i * 5 + 4)) = some (.bool z) := by
      intro i hi
      have hj2 : fs[4]? = some (fs[4]'(by rw [hf.1]; omega)) := Array.getElem?_eq_getElem _
      obtain ⟨v, n, y, h1, h2⟩ := hx i hi 4 _ hj2
      have hu := (hf.2 4 _ hj2).2.2
      obtain ⟨z, h3, _⟩ := DataW.trod_bool hu h2
      simp only [List.cons.injEq, and_true] at h3
      subst h3
      exact ⟨z, h1⟩
    by_cases h0 : len = 0
    · subst h0
      exact ⟨[], rfl, by omega, .inl ⟨rfl, _, _, rfl⟩, lies_nil _ _ _, fun j hj => by simp at hj⟩
    · obtain ⟨sb, so, spot⟩ := ad
      obtain ⟨z0, hz0, _⟩ := hint 0 0 (by omega) (by omega)
      have hspot : spot = none := by simpa [Addr.add] using World.cell?_spot hz0
      subst hspot
      have key : ∀ i, i < len → ∃ x : Plain.En, CellN W sb (so + i * 5) x ∧ InE x := by
        intro i hi
        obtain ⟨k, k1, k2⟩ := hint i 0 hi (by omega)
        obtain ⟨v, v1, v2⟩ := hint i 1 hi (by omega)
        obtain ⟨t, t1, t2⟩ := hint i 2 hi (by omega)
        obtain ⟨o, o1, o2⟩ := hint i 3 hi (by omega)
        obtain ⟨g, g1⟩ := hbool i hi
        rw [add_at, ← Nat.add_assoc] at k1 v1 t1 o1 g1
        exact ⟨⟨k, v, t, o, g⟩, ⟨k1, v1, t1, o1, g1⟩, ⟨k2, v2, t2, o2⟩⟩
      have hlt : sb < W.heap.size := by
        rw [add_at] at hz0
        exact World.block_lt_of_cell? (w := W) (h := hz0)
      obtain ⟨F, hF⟩ : ∃ F : Nat → Plain.En, ∀ i, i < len → CellN W sb (so + i * 5) (F i) ∧ InE (F i) :=
        ⟨fun i => if h : i < len then (key i h).choose else default, fun i hi => by simp only [dif_pos hi]; exact (key i hi).choose_spec⟩
      have hat : ∀ j, j < len → Plain.en ((List.range len).map F) j = F j := by
        intro j hj
        rw [Plain.en_lt (by simpa using hj)]
        simp
      refine ⟨(List.range len).map F, by simp, by omega, .inr ⟨sb, so, cap, by simp, by simpa using hl, fun j hj => ?_⟩, lies_at hlt, fun j hj => ?_⟩
      · rw [List.length_map, List.length_range] at hj
        rw [hat j hj]
        exact (hF j hj).1
      · rw [List.length_map, List.length_range] at hj
        rw [hat j hj]
        exact (hF j hj).2

set_option maxRecDepth 100000 in
theorem en_open {H : Type} {enc : TypeId × Value → H} {W : World} {d : DataW H} {p : List MemPlace} {v : Value} {e : TypeId} {base : Nat} {r : Reach} {fs : Array Field}
    (he : Try.prog.underlying e = some (.struct fs)) (ce : Try.prog.cellsOf e = 5) (hf : FieldsN fs) (hval : Value.okWide Try.prog W r base e v)
    (h : DataW.Trod enc Try.prog W 0 (fun _ => true) true e v d p) : ∃ x : Plain.En, v = aggE x ∧ InE x := by
  obtain ⟨cs, rfl, hcs⟩ := okWide_struct he hval
  rw [ce] at hcs
  obtain ⟨fuel, hfu⟩ := h
  obtain ⟨xs, k, _, _, _, hxl, hg⟩ := DataW.trod_struct he hfu
  have hat : ∀ j (hj : j < 5), ∃ y, DataW.trod enc Try.prog W 0 (fun _ => true) true k (fs[j]'(by rw [hf.1]; omega)).type [cs[j]] = some y := by
    intro j hj
    have hj2 : fs[j]? = some (fs[j]'(by rw [hf.1]; omega)) := Array.getElem?_eq_getElem _
    have g := hg j _ hj2
    obtain ⟨ho, hc1, _⟩ := hf.2 j _ hj2
    rw [ho, hc1] at g
    have e2 : ((Value.agg cs).cells.toList.drop j).take 1 = [cs[j]] := by
      show (cs.toList.drop j).take 1 = [cs[j]]
      rw [List.drop_eq_getElem_cons (by simpa using (by omega : j < cs.size))]
      simp
    rw [e2, List.getElem?_eq_getElem (by rw [hxl, hf.1]; omega)] at g
    exact ⟨_, g⟩
  have hint : ∀ j (hj : j < 4), ∃ z : Int, cs[j] = .int .i64 z ∧ -9223372036854775808 ≤ z ∧ z ≤ 9223372036854775807 := by
    intro j hj
    obtain ⟨y, hy⟩ := hat j (by omega)
    have hu := (hf.2 j _ (Array.getElem?_eq_getElem (by rw [hf.1]; omega))).2.2
    rw [if_pos hj] at hu
    obtain ⟨z, h3, _, h4⟩ := DataW.trod_int hu hy
    simp only [List.cons.injEq, and_true] at h3
    exact ⟨z, h3, bounds_i64 h4⟩
  obtain ⟨k0, k1, k2⟩ := hint 0 (by omega)
  obtain ⟨v0, v1, v2⟩ := hint 1 (by omega)
  obtain ⟨t0, t1, t2⟩ := hint 2 (by omega)
  obtain ⟨o0, o1, o2⟩ := hint 3 (by omega)
  obtain ⟨y, hy⟩ := hat 4 (by omega)
  have hu := (hf.2 4 _ (Array.getElem?_eq_getElem (by rw [hf.1]; omega))).2.2
  obtain ⟨g0, g1, _⟩ := DataW.trod_bool hu hy
  simp only [List.cons.injEq, and_true] at g1
  refine ⟨⟨k0, v0, t0, o0, g0⟩, ?_, ⟨k2, v2, t2, o2⟩⟩
  have e : cs = #[cs[0], cs[1], cs[2], cs[3], cs[4]] := by
    apply Array.ext
    · simpa using hcs
    · intro i h1 h2
      rw [hcs] at h1
      match i, h1 with
      | 0, _ => rfl
      | 1, _ => rfl
      | 2, _ => rfl
      | 3, _ => rfl
      | 4, _ => rfl
  rw [e, k1, v1, t1, o1, g1]
end Go.Proofs.Ytkmnofmhjoehiam
