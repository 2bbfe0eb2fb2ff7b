/-
  Goroutines among others: part 27 of what the law's own text rests on.
-/
import Derived.Test.YtcobehkadhcjiaaCb13
import Derived.Test.YtcobehkadhcjiaaCb14
import Derived.Deep.Slices
import Derived.SizedLaws
/-
  A slice of structs of one-cell fields that came in.
-/
namespace Go.Proofs.Ytcobehkadhcjiaa
open Go.ChangeShapes Go.WideShapes Go.ChangeAt Go.RowKit Go.Deep

theorem open_slice_structs {H : Type} {enc : TypeId × Value → H} {P : Program} {w : World} {base : Nat} {spare : Nat → Bool} {held : Bool} {t e : TypeId} {fs : Array Field} {N fuel : Nat} {a : Option Addr} {len cap : Nat} {x : DataW H × List MemPlace}
    (ht : P.underlying t = some (.slice e)) (he : P.underlying e = some (.struct fs)) (ce : P.cellsOf e = N) (hfs : fs.size = N) (hf : ∀ (j : Nat) (f : Field), fs[j]? = some f → f.offset = j ∧ P.cellsOf f.type = 1)
    (h : DataW.trod enc P w base spare held fuel t [.slice a len cap] = some x) :
    (a = none ∧ len = 0 ∧ cap = 0) ∨ ∃ ad, a = some ad ∧ len ≤ cap ∧ cap ≤ maxLen ∧ (∃ es sp, x.1 = .slice es sp ∧ es.length = len) ∧
      ∀ i, i < len → ∀ (j : Nat) (f : Field), fs[j]? = some f → ∃ v n y, w.cell? (ad.add (i * N + j)) = some v ∧ DataW.trod enc P w base spare held n f.type [v] = some y := by
  rcases open_slice ht h with ⟨h0, _⟩ | ⟨ad, l, c, m, n, D, Pl, hc, hb, hl, hm, hmm, rfl, hx⟩
  · left
    simp only [List.cons.injEq, Value.slice.injEq, and_true] at h0
    exact h0
  right
  simp only [List.cons.injEq, Value.slice.injEq, and_true] at hc
  obtain ⟨rfl, rfl, rfl⟩ := hc
  refine ⟨ad, rfl, hl, hm, ⟨_, _, rfl, by simp⟩, fun i hi j f hj => ?_⟩
  have hlm : len ≤ m := by rw [hmm]; split <;> omega
  obtain ⟨cs', h1, h2⟩ := hx i (by omega)
  rw [ce] at h1
  obtain ⟨_, hlen, hcell⟩ := World.cells?_some h1
  obtain ⟨xs, k, _, _, _, hxl, hg⟩ := DataW.trod_struct he h2
  have hjN : j < N := by
    rw [← hfs]
    obtain ⟨hlt, _⟩ := Array.getElem?_eq_some_iff.1 hj
    exact hlt
  have g := hg j f hj
  obtain ⟨ho, hc1⟩ := hf j f hj
  rw [ho, hc1] at g
  have e1 := hcell j hjN
  rw [add_add] at e1
  have hjc : j < cs'.length := by omega
  have e2 : (cs'.drop j).take 1 = [cs'[j]] := by
    rw [List.drop_eq_getElem_cons hjc]; rfl
  rw [e2, List.getElem?_eq_getElem (by omega)] at g
  rw [List.getElem?_eq_getElem hjc] at e1
  exact ⟨_, _, _, e1, g⟩

theorem add_at {b off : Nat} (k : Nat) : (⟨b, off, none⟩ : Addr).add k = ⟨b, off + k, none⟩ := by
  by_cases h : k = 0
  · subst h; simp [Addr.add]
  · simp [Addr.add, h]

/-- Structs of N numbers: what stands in the cells, as a function. -/
theorem open_struct_ints {H : Type} {enc : TypeId × Value → H} {P : Program} {w : World} {base : Nat} {spare : Nat → Bool} {held : Bool} {t e : TypeId} {fs : Array Field} {N fuel : Nat} {a : Option Addr} {len cap : Nat} {x : DataW H × List MemPlace}
    (ht : P.underlying t = some (.slice e)) (he : P.underlying e = some (.struct fs)) (ce : P.cellsOf e = N) (hN : 0 < N) (hfs : fs.size = N) (hf : ∀ (j : Nat) (f : Field), fs[j]? = some f → f.offset = j ∧ P.cellsOf f.type = 1 ∧ P.underlying f.type = some (.int .i64))
    (h : DataW.trod enc P w base spare held fuel t [.slice a len cap] = some x) :
    ∃ A : Nat → Nat → Int, (∀ i j, i < len → j < N → -9223372036854775808 ≤ A i j ∧ A i j ≤ 9223372036854775807) ∧ len ≤ cap ∧ cap ≤ 9223372036854775807 ∧ (len = 0 ∨ ∃ es sp, x.1 = .slice es sp ∧ es.length = len) ∧
      (0 < len → ∃ b off, a = some ⟨b, off, none⟩ ∧ b < w.heap.size ∧ ∀ i j, i < len → j < N → w.cell? ⟨b, off + i * N + j, none⟩ = some (.int .i64 (A i j))) := by
  rcases open_slice_structs ht he ce hfs (fun j f hj => ⟨(hf j f hj).1, (hf j f hj).2.1⟩) h with ⟨rfl, rfl, rfl⟩ | ⟨ad, rfl, hl, hm, hd, hx⟩
  · exact ⟨fun _ _ => 0, fun i j hi => by omega, Nat.le_refl _, by decide, .inl rfl, fun h => by omega⟩
  · have hint : ∀ i j, i < len → j < N → ∃ z : Int, w.cell? (ad.add (i * N + j)) = some (.int .i64 z) ∧ -9223372036854775808 ≤ z ∧ z ≤ 9223372036854775807 := by
      intro i j hi hj
      have hj2 : fs[j]? = some (fs[j]'(by omega)) := Array.getElem?_eq_getElem _
      obtain ⟨v, n, y, h1, h2⟩ := hx i hi j _ hj2
      obtain ⟨z, h3, _, h4⟩ := DataW.trod_int (hf j _ hj2).2.2 h2
      simp only [List.cons.injEq, and_true] at h3
      subst h3
      exact ⟨z, h1, bounds_i64 h4⟩
    refine ⟨fun i j => if h : i < len ∧ j < N then (hint i j h.1 h.2).choose else 0, fun i j hi hj => ?_, hl, hm, .inr hd, fun h0 => ?_⟩
    · show _ ≤ (if h : i < len ∧ j < N then (hint i j h.1 h.2).choose else 0) ∧ (if h : i < len ∧ j < N then (hint i j h.1 h.2).choose else 0) ≤ _
      rw [dif_pos ⟨hi, hj⟩]; exact (hint i j hi hj).choose_spec.2
    · obtain ⟨sb, so, spot⟩ := ad
      obtain ⟨z0, hz0, _⟩ := hint 0 0 h0 hN
      have hspot : spot = none := by simpa [Addr.add] using World.cell?_spot hz0
      subst hspot
      refine ⟨sb, so, rfl, ?_, fun i j hi hj => ?_⟩
      · rw [add_at] at hz0; exact World.block_lt_of_cell? (w := w) (h := hz0)
      · show _ = some (Value.int .i64 (if h : i < len ∧ j < N then (hint i j h.1 h.2).choose else 0))
        rw [dif_pos ⟨hi, hj⟩]
        have h5 := (hint i j hi hj).choose_spec.1
        generalize (hint i j hi hj).choose = z at h5 ⊢
        rw [add_at, ← Nat.add_assoc] at h5
        exact h5
end Go.Proofs.Ytcobehkadhcjiaa

/-
  Entries that came in: a slice of them, or one.
-/
namespace Go.Proofs.Ytcobehkadhcjiaa
open Go.ChangeShapes Go.WideShapes Go.ChangeAt Go.RowKit Go.Deep

/-- The numbers of an entry are integers of the machine. -/
structure InE (e : Plain.En) : Prop where
  k : -9223372036854775808 ≤ e.key ∧ e.key ≤ 9223372036854775807
  v : -9223372036854775808 ≤ e.value ∧ e.value ≤ 9223372036854775807
  t : -9223372036854775808 ≤ e.time ∧ e.time ≤ 9223372036854775807
  o : -9223372036854775808 ≤ e.who ∧ e.who ≤ 9223372036854775807

/-- The fields of an entry's type. -/
def FieldsN (fs : Array Field) : Prop := fs.size = 5 ∧ ∀ (j : Nat) (f : Field), fs[j]? = some f → f.offset = j ∧ Try.prog.cellsOf f.type = 1 ∧ Try.prog.underlying f.type = some (if j < 4 then .int .i64 else .bool)

theorem ens_open {H : Type} {enc : TypeId × Value → H} {W : World} {d : DataW H} {p : List MemPlace} {a : Option Addr} {len cap : Nat} {t e : TypeId} {fs : Array Field}
    (ht : Try.prog.underlying t = some (.slice e)) (he : Try.prog.underlying e = some (.struct fs)) (ce : Try.prog.cellsOf e = 5) (hf : FieldsN fs)
    (h : DataW.Trod enc Try.prog W 0 (fun _ => true) true t (.slice a len cap) d p) :
    ∃ l : List Plain.En, l.length = len ∧ len ≤ 9223372036854775807 ∧ SegN W (.slice a len cap) l ∧ Lies W.heap.size (.slice a len cap) ∧ ∀ j, j < l.length → InE (Plain.en l j) := by
  obtain ⟨fuel, hfu⟩ := h
  rcases open_slice_structs ht he ce hf.1 (fun j f hj => ⟨(hf.2 j f hj).1, (hf.2 j f hj).2.1⟩) hfu with ⟨rfl, rfl, rfl⟩ | ⟨ad, rfl, hl, hm, hd, hx⟩
  · exact ⟨[], rfl, by decide, .inl ⟨rfl, _, _, rfl⟩, lies_nil _ _ _, fun j hj => by simp at hj⟩
  · have hml : cap ≤ 9223372036854775807 := hm
    have hint : ∀ i j, i < len → j < 4 → ∃ z : Int, W.cell? (ad.add (i * 5 + j)) = some (.int .i64 z) ∧ -9223372036854775808 ≤ z ∧ z ≤ 9223372036854775807 := by
      intro i j hi hj
      have hj2 : fs[j]? = some (fs[j]'(by rw [hf.1]; omega)) := Array.getElem?_eq_getElem _
      obtain ⟨v, n, y, h1, h2⟩ := hx i hi j _ hj2
      have hu := (hf.2 j _ hj2).2.2
      rw [if_pos hj] at hu
      obtain ⟨z, h3, _, h4⟩ := DataW.trod_int hu h2
      simp only [List.cons.injEq, and_true] at h3
      subst h3
      exact ⟨z, h1, bounds_i64 h4⟩
    have hbool : ∀ i, i < len → ∃ z : Bool, W.cell? (ad.add (i * 5 + 4)) = some (.bool z) := by
      intro i hi
      have hj2 : fs[4]? = some (fs[4]'(by rw [hf.1]; omega)) := Array.getElem?_eq_getElem _
      obtain ⟨v, n, y, h1, h2⟩ := hx i hi 4 _ hj2
      have hu := (hf.2 4 _ hj2).2.2
      obtain ⟨z, h3, _⟩ := DataW.trod_bool hu h2
      simp only [List.cons.injEq, and_true] at h3
      subst h3
      exact ⟨z, h1⟩
    by_cases h0 : len = 0
    · subst h0
      exact ⟨[], rfl, by omega, .inl ⟨rfl, _, _, rfl⟩, lies_nil _ _ _, fun j hj => by simp at hj⟩
    · obtain ⟨sb, so, spot⟩ := ad
      obtain ⟨z0, hz0, _⟩ := hint 0 0 (by omega) (by omega)
      have hspot : spot = none := by simpa [Addr.add] using World.cell?_spot hz0
      subst hspot
      have key : ∀ i, i < len → ∃ x : Plain.En, CellN W sb (so + i * 5) x ∧ InE x := by
        intro i hi
        obtain ⟨k, k1, k2⟩ := hint i 0 hi (by omega)
        obtain ⟨v, v1, v2⟩ := hint i 1 hi (by omega)
        obtain ⟨t, t1, t2⟩ := hint i 2 hi (by omega)
        obtain ⟨o, o1, o2⟩ := hint i 3 hi (by omega)
        obtain ⟨g, g1⟩ := hbool i hi
        rw [add_at, ← Nat.add_assoc] at k1 v1 t1 o1 g1
        exact ⟨⟨k, v, t, o, g⟩, ⟨k1, v1, t1, o1, g1⟩, ⟨k2, v2, t2, o2⟩⟩
      have hlt : sb < W.heap.size := by
        rw [add_at] at hz0
        exact World.block_lt_of_cell? (w := W) (h := hz0)
      obtain ⟨F, hF⟩ : ∃ F : Nat → Plain.En, ∀ i, i < len → CellN W sb (so + i * 5) (F i) ∧ InE (F i) :=
        ⟨fun i => if h : i < len then (key i h).choose else default, fun i hi => by simp only [dif_pos hi]; exact (key i hi).choose_spec⟩
      have hat : ∀ j, j < len → Plain.en ((List.range len).map F) j = F j := by
        intro j hj
        rw [Plain.en_lt (by simpa using hj)]
        simp
      refine ⟨(List.range len).map F, by simp, by omega, .inr ⟨sb, so, cap, by simp, by simpa using hl, fun j hj => ?_⟩, lies_at hlt, fun j hj => ?_⟩
      · rw [List.length_map, List.length_range] at hj
        rw [hat j hj]
        exact (hF j hj).1
      · rw [List.length_map, List.length_range] at hj
        rw [hat j hj]
        exact (hF j hj).2

set_option maxRecDepth 100000 in
theorem en_open {H : Type} {enc : TypeId × Value → H} {W : World} {d : DataW H} {p : List MemPlace} {v : Value} {e : TypeId} {base : Nat} {r : Reach} {fs : Array Field}
    (he : Try.prog.underlying e = some (.struct fs)) (ce : Try.prog.cellsOf e = 5) (hf : FieldsN fs) (hval : Value.okWide Try.prog W r base e v)
    (h : DataW.Trod enc Try.prog W 0 (fun _ => true) true e v d p) : ∃ x : Plain.En, v = aggE x ∧ InE x := by
  obtain ⟨cs, rfl, hcs⟩ := okWide_struct he hval
  rw [ce] at hcs
  obtain ⟨fuel, hfu⟩ := h
  obtain ⟨xs, k, _, _, _, hxl, hg⟩ := DataW.trod_struct he hfu
  have hat : ∀ j (hj : j < 5), ∃ y, DataW.trod enc Try.prog W 0 (fun _ => true) true k (fs[j]'(by rw [hf.1]; omega)).type [cs[j]] = some y := by
    intro j hj
    have hj2 : fs[j]? = some (fs[j]'(by rw [hf.1]; omega)) := Array.getElem?_eq_getElem _
    have g := hg j _ hj2
    obtain ⟨ho, hc1, _⟩ := hf.2 j _ hj2
    rw [ho, hc1] at g
    have e2 : ((Value.agg cs).cells.toList.drop j).take 1 = [cs[j]] := by
      show (cs.toList.drop j).take 1 = [cs[j]]
      rw [List.drop_eq_getElem_cons (by simpa using (by omega : j < cs.size))]
      simp
    rw [e2, List.getElem?_eq_getElem (by rw [hxl, hf.1]; omega)] at g
    exact ⟨_, g⟩
  have hint : ∀ j (hj : j < 4), ∃ z : Int, cs[j] = .int .i64 z ∧ -9223372036854775808 ≤ z ∧ z ≤ 9223372036854775807 := by
    intro j hj
    obtain ⟨y, hy⟩ := hat j (by omega)
    have hu := (hf.2 j _ (Array.getElem?_eq_getElem (by rw [hf.1]; omega))).2.2
    rw [if_pos hj] at hu
    obtain ⟨z, h3, _, h4⟩ := DataW.trod_int hu hy
    simp only [List.cons.injEq, and_true] at h3
    exact ⟨z, h3, bounds_i64 h4⟩
  obtain ⟨k0, k1, k2⟩ := hint 0 (by omega)
  obtain ⟨v0, v1, v2⟩ := hint 1 (by omega)
  obtain ⟨t0, t1, t2⟩ := hint 2 (by omega)
  obtain ⟨o0, o1, o2⟩ := hint 3 (by omega)
  obtain ⟨y, hy⟩ := hat 4 (by omega)
  have hu := (hf.2 4 _ (Array.getElem?_eq_getElem (by rw [hf.1]; omega))).2.2
  obtain ⟨g0, g1, _⟩ := DataW.trod_bool hu hy
  simp only [List.cons.injEq, and_true] at g1
  refine ⟨⟨k0, v0, t0, o0, g0⟩, ?_, ⟨k2, v2, t2, o2⟩⟩
  have e : cs = #[cs[0], cs[1], cs[2], cs[3], cs[4]] := by
    apply Array.ext
    · simpa using hcs
    · intro i h1 h2
      rw [hcs] at h1
      match i, h1 with
      | 0, _ => rfl
      | 1, _ => rfl
      | 2, _ => rfl
      | 3, _ => rfl
      | 4, _ => rfl
  rw [e, k1, v1, t1, o1, g1]
end Go.Proofs.Ytcobehkadhcjiaa
