/-
  Goroutines among others: part 40 of what the law's own text rests on.
-/
import Derived.Test.YtcobehkadhcjiaaCc39
/-
  Rows of numbers and tables that came in: their numbers are such as may be.
-/
namespace Go.Proofs.Ytcobehkadhcjiaa
open Go Go.Conc Go.RowKit Go.ChangeShapes Go.WideShapes Go.ChangeAt Go.Deep

set_option maxRecDepth 100000 in
theorem wf_of {H : Type} {enc : TypeId × Value → H} {W : World} {d : DataW H} {p : List MemPlace} {fuel : Nat} {I : InI} (h : DataW.trod enc Try.prog W 0 (fun _ => true) true fuel 22 [I.y] = some (d, p)) (hI : KdI W I) : ∀ z ∈ I.l, (Lit.int .i64 z).wf = true := by
  rcases hI.2 with ⟨_, l, _⟩ | ⟨_, _, l, _⟩ | ⟨b, bl, y, _, hk⟩
  · intro z hz; rw [l] at hz; cases hz
  · intro z hz; rw [l] at hz; cases hz
  intro z hz
  obtain ⟨i, hi, rfl⟩ := List.mem_iff_getElem.1 hz
  rw [y] at h
  rcases open_slice1 (e := 3) Try.underlying22 (by kernel_rfl) h with ⟨e, _⟩ | ⟨ad, len, cap, m, n, V, D, Pl, e, _, hl, hm, hmm, _, hx⟩
  · injection e with e _
    injection e with e _ _
    cases e
  injection e with e _
  injection e with e1 e2 e3
  injection e1 with e1
  subst e1 e2 e3
  have hmc : I.l.length ≤ m := by rw [hmm]; split <;> omega
  obtain ⟨h1, h2⟩ := hx i (by omega)
  obtain ⟨z, h3, _, h4⟩ := DataW.trod_int (k := .i64) Try.underlying3 h2
  simp only [List.cons.injEq, and_true] at h3
  have h5 := hk i hi
  have h6 := (congrArg W.cell? (add_at' b I.s i).symm).trans h1
  rw [h6, h3] at h5
  injection h5 with h5
  injection h5 with _ h5
  rw [List.getD_eq_getElem?_getD, List.getElem?_eq_getElem hi, Option.getD_some] at h5
  rw [← h5]
  exact h4

set_option maxRecDepth 100000 in
/-- A table that came in, row by row. -/
theorem ints_in2 {H : Type} {enc : TypeId × Value → H} {W : World} {d : DataW H} {p : List MemPlace} {ad : Addr} {len cap : Nat} (h : DataW.Trod enc Try.prog W 0 (fun _ => true) true 23 (.slice (some ad) len cap) d p) :
    ∃ F : Nat → InI, ∀ j, j < len → W.cell? (ad.add j) = some (F j).y ∧ KdI W (F j) ∧ ∀ z ∈ (F j).l, (Lit.int .i64 z).wf = true := by
  obtain ⟨fuel, hfu⟩ := h
  rcases open_slice1 (e := 22) Try.underlying23 (by kernel_rfl) hfu with ⟨h0, _⟩ | ⟨a1, l, c, m, n, V, D, Pl, hc, _, hl, hm, hmm, _, hx⟩
  · simp [Value.cells] at h0
  simp [Value.cells] at hc
  obtain ⟨rfl, rfl, rfl⟩ := hc
  have hlm : len ≤ m := by rw [hmm]; split <;> omega
  have key : ∀ i, i < len → ∃ I : InI, W.cell? (ad.add i) = some I.y ∧ KdI W I ∧ ∀ z ∈ I.l, (Lit.int .i64 z).wf = true := by
    intro i hi
    obtain ⟨h1, h2⟩ := hx i (by omega)
    obtain ⟨I, e1, hI⟩ := int_open h2
    simp only [List.cons.injEq, and_true] at e1
    rw [e1] at h1 h2
    exact ⟨I, h1, hI, wf_of h2 hI⟩
  refine ⟨fun i => if h : i < len then (key i h).choose else ⟨.slice none 0 0, [], 0, none, 0⟩, fun i hi => ?_⟩
  simp only [dif_pos hi]
  exact (key i hi).choose_spec

set_option maxRecDepth 100000 in
theorem row_in2 {H : Type} {enc : TypeId × Value → H} {W : World} {d : DataW H} {p : List MemPlace} {a : Option Addr} {len cap base : Nat} (h : DataW.Trod enc Try.prog W 0 (fun _ => true) true 22 (.slice a len cap) d p) (ho : Value.okWide Try.prog W .any base 22 (.slice a len cap)) :
    ∃ I : InI, .slice a len cap = I.y ∧ ((I.y = .slice none 0 0 ∧ I.l = [] ∧ I.bl = none) ∨ WnI W I) ∧ ∀ z ∈ I.l, (Lit.int .i64 z).wf = true := by
  obtain ⟨fuel, hfu⟩ := h
  obtain ⟨I, e, hI⟩ := int_open hfu
  have e' : Value.slice a len cap = I.y := by simpa [Value.cells] using e
  have hfu' : DataW.trod enc Try.prog W 0 (fun _ => true) true fuel 22 [I.y] = some (d, p) := by rw [← e]; exact hfu
  have hw := wf_of hfu' hI
  rcases hI.2 with k | ⟨ad, y, l, bl⟩ | k
  · exact ⟨I, e', .inl k, hw⟩
  · rw [y] at e'
    injection e' with e1 e2 e3
    subst e1 e2 e3
    obtain ⟨hs, hb⟩ := outer_has Try.underlying22 ho
    obtain ⟨bo, oo, spot⟩ := ad
    simp only at hs hb
    subst hs
    exact ⟨⟨.slice (some ⟨bo, oo, none⟩) 0 0, [], oo, some bo, 0⟩, rfl, .inr ⟨bo, rfl, rfl, hb, fun i hi => absurd hi (by simp)⟩, fun z hz => by cases hz⟩
  · exact ⟨I, e', .inr k, hw⟩
set_option maxRecDepth 100000 in
/-- What came in, whole. -/
theorem all_in2 {H : Type} {enc : TypeId × Value → H} {W : World} {d0 d1 : DataW H} {p0 p1 : List MemPlace} {a0 a1 : Option Addr} {n0 c0 n1 c1 b0 b1 : Nat} (h0 : DataW.Trod enc Try.prog W 0 (fun _ => true) true 22 (.slice a0 n0 c0) d0 p0) (o0 : Value.okWide Try.prog W .any b0 22 (.slice a0 n0 c0))
    (h1 : DataW.Trod enc Try.prog W 0 (fun _ => true) true 23 (.slice a1 n1 c1) d1 p1) (o1 : Value.okWide Try.prog W .any b1 23 (.slice a1 n1 c1)) : ∃ X : InX, OkX W X ∧ .slice a0 n0 c0 = X.T.y ∧ .slice a1 n1 c1 = X.y1 ∧ (∀ z ∈ X.T.l, (Lit.int .i64 z).wf = true) ∧ ∀ j, j < X.n → ∀ z ∈ (X.F j).l, (Lit.int .i64 z).wf = true := by
  obtain ⟨I, e, hI, hw⟩ := row_in2 h0 o0
  cases a1 with
  | none =>
    obtain ⟨rfl, rfl⟩ := nil_has Try.underlying23 o1
    exact ⟨⟨I, none, 0, 0, 0, fun _ => I⟩, ⟨hI, .inl ⟨rfl, rfl, rfl⟩, fun j hj => absurd hj (Nat.not_lt_zero _)⟩, e, rfl, hw, fun j hj => absurd hj (Nat.not_lt_zero _)⟩
  | some ad =>
    obtain ⟨hs, hb⟩ := outer_has Try.underlying23 o1
    obtain ⟨F, hF⟩ := ints_in2 h1
    obtain ⟨bo, oo, spot⟩ := ad
    simp only at hs hb
    subst hs
    exact ⟨⟨I, some bo, oo, n1, c1, F⟩, ⟨hI, .inr ⟨bo, rfl, hb⟩, fun j hj => by
      obtain ⟨k1, k2, _⟩ := hF j hj
      exact ⟨bo, rfl, (congrArg W.cell? (add_at' bo oo j).symm).trans k1, k2⟩⟩, e, rfl, hw, fun j hj => (hF j hj).2.2⟩
end Go.Proofs.Ytcobehkadhcjiaa
