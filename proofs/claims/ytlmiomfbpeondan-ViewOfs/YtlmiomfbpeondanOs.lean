/-
  A slice of structs of one-cell fields that came in.
-/
import Derived.Test.YtlmiomfbpeondanSg
import Derived.Deep.Slices
import Derived.SizedLaws
namespace Go.Proofs.Ytlmiomfbpeondan
open Go.ChangeShapes Go.WideShapes Go.ChangeAt Go.RowKit Go.Deep

theorem open_slice_structs {H : Type} {enc : TypeId × Value → H} {P : Program} {w : World} {base : Nat} {spare : Nat → Bool} {held : Bool} {t e : TypeId} {fs : Array Field} {N fuel : Nat} {a : Option Addr} {len cap : Nat} {x : DataW H × List MemPlace}
    (ht : P.underlying t = some (.slice e)) (he : P.underlying e = some (.struct fs)) (ce : P.cellsOf e = N) (hfs : fs.size = N) (hf : ∀ (j : Nat) (f : Field), fs[j]? = some f → f.offset = j ∧ P.cellsOf f.type = 1)
    (h : DataW.trod enc P w base spare held fuel t [.slice a len cap] = some x) :
    (a = none ∧ len = 0 ∧ cap = 0) ∨ ∃ ad, a = some ad ∧ len ≤ cap ∧ cap ≤ maxLen ∧ (∃ es sp, x.1 = .slice es sp ∧ es.length = len) ∧
      ∀ i, i < len → ∀ (j : Nat) (f : Field), fs[j]? = some f → ∃ v n y, w.cell? (ad.add (i * N + j)) = some v ∧ DataW.trod enc P w base spare held n f.type [v] = some y := by
  rcases open_slice ht h with ⟨h0, _⟩ | ⟨ad, l, c, m, n, D, Pl, hc, hb, hl, hm, hmm, rfl, hx⟩
  · left
    simp only [List.cons.injEq, Value.slice.injEq, and_true] at h0
    exact h0
  right
  simp only [List.cons.injEq, Value.slice.injEq, and_true] at hc
  obtain ⟨rfl, rfl, rfl⟩ := hc
  refine ⟨ad, rfl, hl, hm, ⟨_, _, rfl, by simp⟩, fun i hi j f hj => ?_⟩
  have hlm : len ≤ m := by rw [hmm]; split <;> omega
  obtain ⟨cs', h1, h2⟩ := hx i (by omega)
  rw [ce] at h1
  obtain ⟨_, hlen, hcell⟩ := World.cells?_some h1
  obtain ⟨xs, k, _, _, _, hxl, hg⟩ := DataW.trod_struct he h2
  have hjN : j < N := by
    rw [← hfs]
    obtain ⟨hlt, _⟩ := Array.getElem?_eq_some_iff.1 hj
    exact hlt
  have g := hg j f hj
  obtain ⟨ho, hc1⟩ := hf j f hj
  rw [ho, hc1] at g
  have e1 := hcell j hjN
  rw [add_add] at e1
  have hjc : j < cs'.length := by omega
  have e2 : (cs'.drop j).take 1 = [cs'[j]] := by
    rw [List.drop_eq_getElem_cons hjc]; rfl
  rw [e2, List.getElem?_eq_getElem (by omega)] at g
  rw [List.getElem?_eq_getElem hjc] at e1
  exact ⟨_, _, _, e1, g⟩

theorem add_at {b off : Nat} (k : Nat) : (⟨b, off, none⟩ : Addr).add k = ⟨b, off + k, none⟩ := by
  by_cases h : k = 0
  · subst h; simp [Addr.add]
  · simp [Addr.add, h]

/-- Structs of N numbers: what stands in the cells, as a function. -/
theorem open_struct_ints {H : Type} {enc : TypeId × Value → H} {P : Program} {w : World} {base : Nat} {spare : Nat → Bool} {held : Bool} {t e : TypeId} {fs : Array Field} {N fuel : Nat} {a : Option Addr} {len cap : Nat} {x : DataW H × List MemPlace}
    (ht : P.underlying t = some (.slice e)) (he : P.underlying e = some (.struct fs)) (ce : P.cellsOf e = N) (hN : 0 < N) (hfs : fs.size = N) (hf : ∀ (j : Nat) (f : Field), fs[j]? = some f → f.offset = j ∧ P.cellsOf f.type = 1 ∧ P.underlying f.type = some (.int .i64))
    (h : DataW.trod enc P w base spare held fuel t [.slice a len cap] = some x) :
    ∃ A : Nat → Nat → Int, (∀ i j, i < len → j < N → -9223372036854775808 ≤ A i j ∧ A i j ≤ 9223372036854775807) ∧ len ≤ cap ∧ cap ≤ 9223372036854775807 ∧ (len = 0 ∨ ∃ es sp, x.1 = .slice es sp ∧ es.length = len) ∧
      (0 < len → ∃ b off, a = some ⟨b, off, none⟩ ∧ b < w.heap.size ∧ ∀ i j, i < len → j < N → w.cell? ⟨b, off + i * N + j, none⟩ = some (.int .i64 (A i j))) := by
  rcases open_slice_structs ht he ce hfs (fun j f hj => ⟨(hf j f hj).1, (hf j f hj).2.1⟩) h with ⟨rfl, rfl, rfl⟩ | ⟨ad, rfl, hl, hm, hd, hx⟩
  · exact ⟨fun _ _ => 0, fun i j hi => by omega, Nat.le_refl _, by decide, .inl rfl, fun h => by omega⟩
  · have hint : ∀ i j, i < len → j < N → ∃ z : Int, w.cell? (ad.add (i * N + j)) = some (.int .i64 z) ∧ -9223372036854775808 ≤ z ∧ z ≤ 9223372036854775807 := by
      intro i j hi hj
      have hj2 : fs[j]? = some (fs[j]'(by omega)) := Array.getElem?_eq_getElem _
      obtain ⟨v, n, y, h1, h2⟩ := hx i hi j _ hj2
      obtain ⟨z, h3, _, h4⟩ := DataW.trod_int (hf j _ hj2).2.2 h2
      simp only [List.cons.injEq, and_true] at h3
      subst h3
      exact ⟨z, h1, bounds_i64 h4⟩
    refine ⟨fun i j => if h : i < len ∧ j < N then (hint i j h.1 h.2).choose else 0, fun i j hi hj => ?_, hl, hm, .inr hd, fun h0 => ?_⟩
    · show _ ≤ (if h : i < len ∧ j < N then (hint i j h.1 h.2).choose else 0) ∧ (if h : i < len ∧ j < N then (hint i j h.1 h.2).choose else 0) ≤ _
      rw [dif_pos ⟨hi, hj⟩]; exact (hint i j hi hj).choose_spec.2
    · obtain ⟨sb, so, spot⟩ := ad
      obtain ⟨z0, hz0, _⟩ := hint 0 0 h0 hN
      have hspot : spot = none := by simpa [Addr.add] using World.cell?_spot hz0
      subst hspot
      refine ⟨sb, so, rfl, ?_, fun i j hi hj => ?_⟩
      · rw [add_at] at hz0; exact World.block_lt_of_cell? (w := w) (h := hz0)
      · show _ = some (Value.int .i64 (if h : i < len ∧ j < N then (hint i j h.1 h.2).choose else 0))
        rw [dif_pos ⟨hi, hj⟩]
        have h5 := (hint i j hi hj).choose_spec.1
        generalize (hint i j hi hj).choose = z at h5 ⊢
        rw [add_at, ← Nat.add_assoc] at h5
        exact h5
end Go.Proofs.Ytlmiomfbpeondan
