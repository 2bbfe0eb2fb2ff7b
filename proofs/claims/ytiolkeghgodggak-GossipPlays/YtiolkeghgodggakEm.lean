/-
  Entries in memory: five cells each.
-/
import Derived.Test.YtiolkeghgodggakEp
import Derived.Test.YtiolkeghgodggakSg
import Derived.Deep.OwnRows
namespace Go.Proofs.Ytiolkeghgodggak
open Go.RowKit

def encE (e : Plain.En) : List Value := [.int .i64 e.key, .int .i64 e.value, .int .i64 e.time, .int .i64 e.who, .bool e.gone]
def evals (l : List Plain.En) : List Value := l.flatMap encE
theorem evals_cons (a : Plain.En) (l : List Plain.En) : evals (a :: l) = encE a ++ evals l := rfl
theorem evals_app (a b : List Plain.En) : evals (a ++ b) = evals a ++ evals b := by simp [evals]
theorem encE_len (e : Plain.En) : (encE e).length = 5 := rfl
theorem evals_len (l : List Plain.En) : (evals l).length = l.length * 5 := by
  induction l with
  | nil => rfl
  | cons a l ih => rw [evals_cons, List.length_append, encE_len, ih, List.length_cons]; omega
theorem evals_split (l : List Plain.En) (i : Nat) (h : i ≤ l.length) : (evals l).take (i * 5) = evals (l.take i) ∧ (evals l).drop (i * 5) = evals (l.drop i) := by
  have e : evals l = evals (l.take i) ++ evals (l.drop i) := by rw [← evals_app, List.take_append_drop]
  have hl : (evals (l.take i)).length = i * 5 := by rw [evals_len, List.length_take, Nat.min_eq_left h]
  rw [e]
  exact ⟨by rw [List.take_append_of_le_length (by omega), List.take_of_length_le (by omega)], by rw [List.drop_append_of_le_length (by omega), List.drop_of_length_le (by omega), List.nil_append]⟩
theorem evals_at (l : List Plain.En) (j k : Nat) (hj : j < l.length) (hk : k < 5) : (evals l)[j * 5 + k]? = (encE (Plain.en l j))[k]? := by
  induction l generalizing j with
  | nil => simp at hj
  | cons a l ih =>
    rw [evals_cons]
    cases j with
    | zero =>
      rw [List.getElem?_append_left (by rw [encE_len]; omega), Nat.zero_mul, Nat.zero_add]
      rfl
    | succ j =>
      rw [List.getElem?_append_right (by rw [encE_len]; omega), encE_len, show (j + 1) * 5 + k - 5 = j * 5 + k by omega, ih j (by simpa using hj)]
      rfl
theorem encE_one (e : Plain.En) : ∀ u ∈ encE e, u.oneCell' = true := by
  intro u hu
  simp only [encE, List.mem_cons, List.not_mem_nil, or_false] at hu
  rcases hu with rfl | rfl | rfl | rfl | rfl <;> rfl
theorem evals_one (l : List Plain.En) : ∀ u ∈ evals l, u.oneCell' = true := by
  intro u hu
  obtain ⟨e, _, h⟩ := List.mem_flatMap.1 hu
  exact encE_one e u h

/-- The five cells of an entry. -/
structure CellN (w : World) (b o : Nat) (e : Plain.En) : Prop where
  c0 : w.cell? ⟨b, o, none⟩ = some (.int .i64 e.key)
  c1 : w.cell? ⟨b, o + 1, none⟩ = some (.int .i64 e.value)
  c2 : w.cell? ⟨b, o + 2, none⟩ = some (.int .i64 e.time)
  c3 : w.cell? ⟨b, o + 3, none⟩ = some (.int .i64 e.who)
  c4 : w.cell? ⟨b, o + 4, none⟩ = some (.bool e.gone)
theorem CellN.below {w w' : World} {b o B : Nat} {e : Plain.En} (h : CellN w b o e) (hb : Below B w w') (hlt : b < B) : CellN w' b o e :=
  ⟨(hb.cell (p := ⟨b, o, none⟩) hlt).trans h.c0, (hb.cell (p := ⟨b, o + 1, none⟩) hlt).trans h.c1, (hb.cell (p := ⟨b, o + 2, none⟩) hlt).trans h.c2, (hb.cell (p := ⟨b, o + 3, none⟩) hlt).trans h.c3, (hb.cell (p := ⟨b, o + 4, none⟩) hlt).trans h.c4⟩
theorem CellN.lt {w : World} {b o : Nat} {e : Plain.En} (h : CellN w b o e) : b < w.heap.size := World.block_lt_of_cell? (w := w) (h := h.c0)
/-- The cells of the entries l, from ⟨b, off⟩ on. -/
def CellsN (w : World) (b off : Nat) (l : List Plain.En) : Prop := ∀ j, j < l.length → CellN w b (off + j * 5) (Plain.en l j)
/-- The slice v holds the entries l. -/
def SegN (w : World) (v : Value) (l : List Plain.En) : Prop :=
  (l = [] ∧ ∃ p cap, v = .slice p 0 cap) ∨ ∃ b off cap, v = .slice (some ⟨b, off, none⟩) l.length cap ∧ l.length ≤ cap ∧ CellsN w b off l
theorem CellsN.below {w w' : World} {b off B : Nat} {l : List Plain.En} (h : CellsN w b off l) (hb : Below B w w') (hlt : b < B) : CellsN w' b off l := fun j hj => (h j hj).below hb hlt
theorem SegN.below {w w' : World} {v : Value} {l : List Plain.En} {B : Nat} (h : SegN w v l) (hb : Below B w w') (hv : Lies B v) : SegN w' v l := by
  rcases h with ⟨rfl, p1, c1, rfl⟩ | ⟨b1, o1, c1, rfl, hc1, g1⟩
  · exact .inl ⟨rfl, p1, c1, rfl⟩
  · by_cases h0 : 0 < l.length
    · exact .inr ⟨b1, o1, c1, rfl, hc1, g1.below hb (hv ⟨b1, o1, none⟩ _ _ rfl h0)⟩
    · exact .inr ⟨b1, o1, c1, rfl, hc1, fun j hj => by omega⟩
theorem SegN.nil (w : World) : SegN w (.slice none 0 0) [] := .inl ⟨rfl, none, 0, rfl⟩
/-- What a slice that holds entries looks like. -/
theorem SegN.form {w : World} {v : Value} {l : List Plain.En} (h : SegN w v l) : ∃ p cap, v = .slice p l.length cap ∧ (0 < l.length → ∃ b off, p = some ⟨b, off, none⟩ ∧ l.length ≤ cap ∧ CellsN w b off l) := by
  rcases h with ⟨rfl, p1, c1, rfl⟩ | ⟨b1, o1, c1, rfl, hc1, g1⟩
  · exact ⟨p1, c1, rfl, fun h => by simp at h⟩
  · exact ⟨_, c1, rfl, fun _ => ⟨b1, o1, rfl, hc1, g1⟩⟩
theorem SegN.some {w : World} {v : Value} {l : List Plain.En} (h : SegN w v l) (hl : 0 < l.length) : ∃ b off cap, v = .slice (some ⟨b, off, none⟩) l.length cap ∧ l.length ≤ cap ∧ CellsN w b off l := by
  rcases h with ⟨rfl, _⟩ | h
  · simp at hl
  · exact h
/-- The cells, one behind the other. -/
theorem CellsN.vals {w : World} {b off : Nat} {l : List Plain.En} (h : CellsN w b off l) : ∀ j u, (evals l)[j]? = some u → w.cell? ⟨b, off + j, none⟩ = some u := by
  intro j u hj
  have hlt : j < l.length * 5 := by
    rw [← evals_len]
    exact (List.getElem?_eq_some_iff.1 hj).1
  have e : j = j / 5 * 5 + j % 5 := by omega
  have hk : j % 5 < 5 := Nat.mod_lt _ (by omega)
  have h1 : j / 5 < l.length := by omega
  have c := h (j / 5) h1
  rw [e, evals_at l _ _ h1 hk] at hj
  rw [e, ← Nat.add_assoc]
  generalize j % 5 = k at hj hk
  generalize off + j / 5 * 5 = o at c
  match k, hk, hj with
  | 0, _, hj => injection hj with hj; subst hj; exact c.c0
  | 1, _, hj => injection hj with hj; subst hj; exact c.c1
  | 2, _, hj => injection hj with hj; subst hj; exact c.c2
  | 3, _, hj => injection hj with hj; subst hj; exact c.c3
  | 4, _, hj => injection hj with hj; subst hj; exact c.c4
theorem CellsN.of_vals {w : World} {b off : Nat} {l : List Plain.En} (h : ∀ j u, (evals l)[j]? = some u → w.cell? ⟨b, off + j, none⟩ = some u) : CellsN w b off l := by
  intro j hj
  have g : ∀ k u, k < 5 → (encE (Plain.en l j))[k]? = some u → w.cell? ⟨b, off + (j * 5 + k), none⟩ = some u := fun k u hk hu => h _ u (by rw [evals_at l j k hj hk]; exact hu)
  refine ⟨?_, ?_, ?_, ?_, ?_⟩
  · have := g 0 _ (by omega) rfl; rwa [Nat.add_zero] at this
  · have := g 1 _ (by omega) rfl; rwa [← Nat.add_assoc] at this
  · have := g 2 _ (by omega) rfl; rwa [← Nat.add_assoc] at this
  · have := g 3 _ (by omega) rfl; rwa [← Nat.add_assoc] at this
  · have := g 4 _ (by omega) rfl; rwa [← Nat.add_assoc] at this

theorem add_zero_at (g k : Nat) : (⟨g, 0, none⟩ : Addr).add k = ⟨g, k, none⟩ := by
  by_cases h : k = 0
  · subst h; simp [Addr.add]
  · simp [Addr.add, h]
theorem addr_add (g o k : Nat) : (⟨g, o, none⟩ : Addr).add k = ⟨g, o + k, none⟩ := by
  by_cases h : k = 0
  · subst h; simp [Addr.add]
  · simp [Addr.add, h]

/-- Entries in a row of the call's own (T: their type). -/
def OwnN (w : World) (B T : Nat) (v : Value) (l : List Plain.En) : Prop := w.ownsRow B T 5 v l.length (evals l)
theorem OwnN.cells {w : World} {B T g n c : Nat} {l : List Plain.En} (h : OwnN w B T (.slice (some ⟨g, 0, none⟩) n c) l) : CellsN w g 0 l :=
  CellsN.of_vals fun j u hj => by
    have h2 : w.ownsRow B T 5 (.slice (some ⟨g, 0, none⟩) n c) l.length (evals l) := h
    rcases h2.2 with ⟨e, _⟩ | ⟨g', cap', cur, e, hg, hb, h1, _, h3, h4⟩
    · cases e
    · injection e with e1 e2 e3
      injection e1 with e1
      injection e1 with e1 _ _
      subst e1
      rw [← h4, List.getElem?_take] at hj
      split at hj
      · rw [Nat.zero_add]
        simp only [World.cell?, hb]
        rw [Array.getElem?_toList] at hj
        rw [hj]
        rfl
      · cases hj
theorem OwnN.seg {w : World} {B T : Nat} {v : Value} {l : List Plain.En} (h : OwnN w B T v l) : SegN w v l ∧ Lies w.heap.size v := by
  have h2 : w.ownsRow B T 5 v l.length (evals l) := h
  rcases h2.2 with ⟨rfl, h0⟩ | ⟨g, cap, cur, rfl, _, hg, hc, _⟩
  · exact ⟨.inl ⟨List.length_eq_zero_iff.1 h0, _, _, rfl⟩, lies_nil _ _ _⟩
  · exact ⟨.inr ⟨g, 0, cap, rfl, hc, h.cells⟩, lies_at (Array.getElem?_eq_some_iff.1 hg).1⟩
/-- The row, opened. -/
theorem OwnN.row {w : World} {B T : Nat} {v : Value} {l : List Plain.En} (h : OwnN w B T v l) (hl : 0 < l.length) :
    ∃ g cap cur, v = .slice (some ⟨g, 0, none⟩) l.length cap ∧ B ≤ g ∧ w.heap[g]? = some (.cells cur T (0, 0)) ∧ l.length ≤ cap ∧ cap ≤ maxLen ∧ cur.size = cap * 5 ∧ cur.toList.take (l.length * 5) = evals l := by
  have h2 : w.ownsRow B T 5 v l.length (evals l) := h
  rcases h2.2 with ⟨rfl, h0⟩ | h3
  · omega
  · exact h3
theorem OwnN.mk {w : World} {B T g cap : Nat} {cur : Array Value} {l : List Plain.En} (hB : B ≤ g) (hg : w.heap[g]? = some (.cells cur T (0, 0))) (hc : l.length ≤ cap) (hm : cap ≤ maxLen) (hs : cur.size = cap * 5) (ht : cur.toList.take (l.length * 5) = evals l) :
    OwnN w B T (.slice (some ⟨g, 0, none⟩) l.length cap) l := ⟨evals_len l, .inr ⟨g, cap, cur, rfl, hB, hg, hc, hm, hs, ht⟩⟩
theorem OwnN.nil (w : World) (B T : Nat) : OwnN w B T (.slice none 0 0) [] := ⟨rfl, .inl ⟨rfl, rfl⟩⟩
/-- All blocks stay as they were: so does the row. -/
theorem OwnN.grow {w w' : World} {B T : Nat} {v : Value} {l : List Plain.En} (h : OwnN w B T v l) (g : Below w.heap.size w w') : OwnN w' B T v l := by
  refine ⟨h.1, ?_⟩
  rcases h.2 with h0 | ⟨b, cap, cur, e, hB, hb, h3⟩
  · exact .inl h0
  · exact .inr ⟨b, cap, cur, e, hB, (g.block b (Array.getElem?_eq_some_iff.1 hb).1).trans hb, h3⟩
theorem OwnN.base {w : World} {B C T : Nat} {v : Value} {l : List Plain.En} (h : OwnN w B T v l) (hc : C ≤ B) : OwnN w C T v l := by
  refine ⟨h.1, ?_⟩
  rcases h.2 with h0 | ⟨b, cap, cur, e, hB, h3⟩
  · exact .inl h0
  · exact .inr ⟨b, cap, cur, e, by omega, h3⟩
end Go.Proofs.Ytiolkeghgodggak
