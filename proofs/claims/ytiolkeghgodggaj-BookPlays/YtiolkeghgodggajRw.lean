/-
  Rows of numbers in blocks of their own.
-/
import Derived.Test.YtiolkeghgodggajSg
namespace Go.Proofs.Ytiolkeghgodggaj
open Go.RowKit

/-- A row of numbers in a block of its own. -/
def RowI (w : World) (b : Nat) (l : List Int) : Prop :=
  ∃ cur, w.heap[b]? = some (.cells cur 3 (0, 0)) ∧ l.length ≤ cur.size ∧ ∀ i, i < l.length → cur[i]? = some (.int .i64 (l.getD i 0))

namespace RowI
variable {w w' : World} {b : Nat} {l : List Int}
theorem cell (h : RowI w b l) {i : Nat} (hi : i < l.length) : w.cell? ⟨b, i, none⟩ = some (.int .i64 (l.getD i 0)) := by
  obtain ⟨c, hb, _, hc⟩ := h
  simp only [World.cell?, hb, hc i hi]
  rfl
theorem frozen (h : RowI w b l) (i : Nat) : w.frozen? ⟨b, i, none⟩ = false := by
  obtain ⟨c, hb, _, _⟩ := h
  simp [World.frozen?, hb]
theorem lt (h : RowI w b l) : b < w.heap.size := by
  obtain ⟨c, hb, _, _⟩ := h
  obtain ⟨hlt, _⟩ := Array.getElem?_eq_some_iff.1 hb
  exact hlt
theorem of_block (h : RowI w b l) (e : w'.heap[b]? = w.heap[b]?) : RowI w' b l := by
  obtain ⟨c, hb, hn, hc⟩ := h
  exact ⟨c, e.trans hb, hn, hc⟩
theorem below {B : Nat} (h : RowI w b l) (hb : Below B w w') (hlt : b < B) : RowI w' b l := h.of_block (hb.block b hlt)
theorem other (h : RowI w b l) {a : Addr} (ha : b ≠ a.block) (v : Value) : RowI (w.setCell a v) b l := h.of_block (Below.heap_setCell _ _ _ _ ha)
theorem set (h : RowI w b l) (i : Nat) (hi : i < l.length) (x : Int) : RowI (w.setCell ⟨b, i, none⟩ (.int .i64 x)) b (l.set i x) := by
  obtain ⟨c, hb, hn, hc⟩ := h
  refine ⟨c.setIfInBounds i (.int .i64 x), ?_, by simpa using hn, fun j hj => ?_⟩
  · simp [World.setCell, Array.getElem?_modify, hb]
  · rw [List.length_set] at hj
    rw [Array.getElem?_setIfInBounds]
    by_cases e : i = j
    · subst e
      rw [if_pos rfl, if_pos (by omega)]
      simp [List.getD_eq_getElem?_getD, hi]
    · rw [if_neg e, hc j hj]
      simp [List.getD_eq_getElem?_getD, e]
theorem of_rowIs {n : Nat} {f : Nat → Value} (h : w.rowIs b 3 n f) (hl : l.length ≤ n) (hf : ∀ i, i < l.length → f i = .int .i64 (l.getD i 0)) : RowI w b l := by
  obtain ⟨c, hb, hn, hc⟩ := h
  exact ⟨c, hb, by omega, fun i hi => by rw [hc i (by omega), hf i hi]⟩
theorem seg (h : RowI w b l) (cap : Nat) : Seg w (.slice (some ⟨b, 0, none⟩) l.length cap) l :=
  .inr ⟨b, 0, cap, rfl, fun j hj => by rw [Nat.zero_add]; exact h.cell hj⟩
theorem lies (h : RowI w b l) (n cap : Nat) : Lies w.heap.size (.slice (some ⟨b, 0, none⟩) n cap) := lies_at h.lt
/-- What an append laid, as a row. -/
theorem of_owns {B n g cap : Nat} {xs : List Value} (h : w.ownsRow B 3 1 (.slice (some ⟨g, 0, none⟩) n cap) n xs) (hn : l.length = n) (hx : xs = l.map (Value.int .i64)) : RowI w g l ∧ B ≤ g := by
  rcases h.2 with ⟨e, _⟩ | ⟨g', cap', cur, e, hg, hb, h1, _, h3, h4⟩
  · cases e
  · injection e with e1 _ _
    injection e1 with e1
    injection e1 with e1 _ _
    subst e1
    refine ⟨⟨cur, hb, by omega, fun i hi => ?_⟩, hg⟩
    have h5 : (cur.toList.take (n * 1))[i]? = some (.int .i64 (l.getD i 0)) := by rw [h4, hx]; simp [hi]
    rw [List.getElem?_take, if_pos (by omega)] at h5
    rw [← Array.getElem?_toList]
    exact h5
end RowI
end Go.Proofs.Ytiolkeghgodggaj
