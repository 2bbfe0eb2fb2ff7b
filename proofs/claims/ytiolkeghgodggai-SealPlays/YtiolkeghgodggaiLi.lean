/-
  Moves of letters that came in, and bytes that came in inside them.
-/
import Derived.Test.YtiolkeghgodggaiOs
import Derived.Test.YtiolkeghgodggaiS2
namespace Go.Proofs.Ytiolkeghgodggai.Se
open Go.ChangeShapes Go.WideShapes Go.ChangeAt Go.RowKit Go.Deep

/-- A slice of bytes that came in. -/
theorem bytes_open {H : Type} {enc : TypeId × Value → H} {w : World} {base n : Nat} {held : Bool} {t : TypeId} {v : Value} {y : DataW H × List MemPlace} (ht : Try.prog.underlying t = some (.slice 5))
    (h : DataW.trod enc Try.prog w base (fun _ => true) held n t [v] = some y) : ∃ p c l, v = .slice p (List.length l) c ∧ By w.heap.size w p c l := by
  rcases open_ints ht Try.underlying5 (by kernel_rfl) h with ⟨hcs, _⟩ | ⟨x, len, cap, zs, hcs, _, hl, hm, hz, _, hcell, hwz⟩
  · simp only [List.cons.injEq, and_true] at hcs
    subst hcs
    exact ⟨none, 0, [], rfl, By.nil _ _⟩
  · simp only [List.cons.injEq, and_true] at hcs
    subst hcs
    obtain ⟨l, e1, e2, e3, _, hy, hl2⟩ := row_list (k := .u8) (w := w) (a := some x) (len := len) (cap := cap) (zs := zs) (.inr ⟨x, rfl, hl, hm, by simpa using hz, hcell, hwz⟩)
    subst e1
    refine ⟨some x, cap, l, rfl, ⟨e2, e3, (fun e => by cases e), fun h0 => ?_⟩⟩
    rcases hl2 with ⟨rfl, _⟩ | ⟨b, off, hb, hc⟩
    · simp at h0
    · injection hb with hb
      subst hb
      have hlt := hy ⟨b, off, none⟩ _ _ rfl h0
      exact ⟨b, off, rfl, hlt, .inl hlt, hc⟩
/-- A list of what there is at each place. -/
theorem list_of {α : Type} [Inhabited α] (n : Nat) (Q : Nat → α → Prop) (h : ∀ i, i < n → ∃ a, Q i a) : ∃ l : List α, l.length = n ∧ ∀ i, i < n → Q i (l.getD i default) := by
  induction n with
  | zero => exact ⟨[], rfl, fun i hi => by omega⟩
  | succ n ih =>
    obtain ⟨l, hl, hq⟩ := ih (fun i hi => h i (by omega))
    obtain ⟨a, ha⟩ := h n (by omega)
    refine ⟨l ++ [a], by simp [hl], fun i hi => ?_⟩
    by_cases e : i = n
    · subst e
      rw [List.getD_eq_getElem?_getD, List.getElem?_append_right (by omega), hl, Nat.sub_self]
      exact ha
    · have := hq i (by omega)
      rw [List.getD_eq_getElem?_getD, List.getElem?_append_left (by omega), ← List.getD_eq_getElem?_getD]
      exact this
/-- A row of structs from what stands in their cells. -/
theorem _root_.Go.Proofs.Ytiolkeghgodggai.Enc.of_cells {α : Type} (E : Enc α) [Inhabited α] {w : World} {b off : Nat} {l : List α} (hb : 0 < l.length → b < w.heap.size) (h : ∀ i, i < l.length → ∀ j u, j < E.n → (E.enc (l.getD i default))[j]? = some u → w.cell? ⟨b, off + i * E.n + j, none⟩ = some u) : E.Holds w (some ⟨b, off, none⟩) l := fun h0 => by
  refine ⟨b, off, rfl, hb h0, fun j u hu => ?_⟩
  have hjl : j < l.length * E.n := by
    rcases Nat.lt_or_ge j (l.length * E.n) with x | x
    · exact x
    · rw [List.getElem?_eq_none (by rw [E.vals_len]; exact x)] at hu; cases hu
  have hpos := E.pos
  have hd : j / E.n < l.length := Nat.div_lt_of_lt_mul (by rw [Nat.mul_comm]; exact hjl)
  have hm : j % E.n < E.n := Nat.mod_lt _ hpos
  have ej : j = j / E.n * E.n + j % E.n := by have := Nat.div_add_mod j E.n; rw [Nat.mul_comm] at this; omega
  have hu2 : (E.vals l)[j / E.n * E.n + j % E.n]? = some u := by rw [← ej]; exact hu
  rw [E.vals_at default _ _ _ hd hm] at hu2
  have := h _ hd _ _ hm hu2
  rw [show off + j = off + j / E.n * E.n + j % E.n by omega]
  exact this
/-- The fields of a move: numbers, and a slice of bytes. -/
def FieldsL (fs : Array Field) : Prop := fs.size = 5 ∧ (∀ (j : Nat) (f : Field), fs[j]? = some f → f.offset = j ∧ Try.prog.cellsOf f.type = 1) ∧ (∀ (j : Nat) (f : Field), fs[j]? = some f → j < 4 → Try.prog.underlying f.type = some (.int .i64)) ∧ ∀ f : Field, fs[4]? = some f → Try.prog.underlying f.type = some (.slice 5)
/-- The slice v holds the moves R. -/
def SegL (w : World) (v : Value) (R : List RL) : Prop := R.length ≤ 9223372036854775807 ∧ ∃ p cap, v = .slice p R.length cap ∧ Mv w p R
theorem les_open {H : Type} {enc : TypeId × Value → H} {W : World} {d : DataW H} {p : List MemPlace} {a : Option Addr} {len cap : Nat} {t e : TypeId} {fs : Array Field}
    (ht : Try.prog.underlying t = some (.slice e)) (he : Try.prog.underlying e = some (.struct fs)) (ce : Try.prog.cellsOf e = 5) (hf : FieldsL fs)
    (h : DataW.Trod enc Try.prog W 0 (fun _ => true) true t (.slice a len cap) d p) : ∃ R : List RL, SegL W (.slice a len cap) R := by
  obtain ⟨fuel, hfu⟩ := h
  obtain ⟨h5, hfo, hfi, hfb⟩ := hf
  rcases open_slice_structs ht he ce h5 hfo hfu with ⟨rfl, rfl, rfl⟩ | ⟨ad, rfl, hl, hm, _, hx⟩
  · exact ⟨[], by simp, none, 0, rfl, ⟨Enc.Holds.nil _ _, fun r hr => (nomatch hr)⟩⟩
  have hml : cap ≤ 9223372036854775807 := hm
  have hk : ∀ i, i < len → ∃ r : RL, (∀ j u, j < 5 → (encL.enc r)[j]? = some u → W.cell? (ad.add (i * 5 + j)) = some u) ∧ By W.heap.size W r.p r.c r.x.data := by
    intro i hi
    have num : ∀ j, j < 4 → ∃ z : Int, W.cell? (ad.add (i * 5 + j)) = some (.int .i64 z) := fun j hj => by
      have hj2 : fs[j]? = some (fs[j]'(by omega)) := Array.getElem?_eq_getElem _
      obtain ⟨v, n, y, h1, h2⟩ := hx i hi j _ hj2
      obtain ⟨z, h3, _, h4⟩ := DataW.trod_int (hfi j _ hj2 hj) h2
      simp only [List.cons.injEq, and_true] at h3
      subst h3
      exact ⟨z, h1⟩
    obtain ⟨z0, e0⟩ := num 0 (by omega)
    obtain ⟨z1, e1⟩ := num 1 (by omega)
    obtain ⟨z2, e2⟩ := num 2 (by omega)
    obtain ⟨z3, e3⟩ := num 3 (by omega)
    have hj4 : fs[4]? = some (fs[4]'(by omega)) := Array.getElem?_eq_getElem _
    obtain ⟨v, n, y, h1, h2⟩ := hx i hi 4 _ hj4
    obtain ⟨q, c, l, rfl, hb⟩ := bytes_open (hfb _ hj4) h2
    refine ⟨⟨⟨z0, z1, z2, z3, l⟩, q, c⟩, fun j u hj hu => ?_, hb⟩
    have : j = 0 ∨ j = 1 ∨ j = 2 ∨ j = 3 ∨ j = 4 := by omega
    rcases this with rfl | rfl | rfl | rfl | rfl
    · have hu : some (Value.int .i64 z0) = some u := hu; rw [← hu]; exact e0
    · have hu : some (Value.int .i64 z1) = some u := hu; rw [← hu]; exact e1
    · have hu : some (Value.int .i64 z2) = some u := hu; rw [← hu]; exact e2
    · have hu : some (Value.int .i64 z3) = some u := hu; rw [← hu]; exact e3
    · have hu : some (Value.slice q l.length c) = some u := hu; rw [← hu]; exact h1
  obtain ⟨R, hR, hq⟩ := list_of len _ hk
  subst hR
  refine ⟨R, by omega, some ad, cap, rfl, ⟨?_, fun r hr => ?_⟩⟩
  · by_cases h0 : 0 < R.length
    · obtain ⟨sb, so, spot⟩ := ad
      have hz0 := (hq 0 h0).1 0 _ (by omega) rfl
      have hspot : spot = none := by simpa [Addr.add] using World.cell?_spot hz0
      subst hspot
      refine encL.of_cells (fun _ => ?_) fun i hi j u hj hu => ?_
      · rw [add_at] at hz0; exact World.block_lt_of_cell? (w := W) (h := hz0)
      · have := (hq i hi).1 j u hj hu
        rw [add_at, ← Nat.add_assoc] at this
        exact this
    · exact fun x => absurd x h0
  · obtain ⟨i, hi, rfl⟩ := List.getElem_of_mem hr
    have := (hq i hi).2
    rw [List.getD_eq_getElem?_getD, List.getElem?_eq_getElem hi] at this
    exact this
end Go.Proofs.Ytiolkeghgodggai.Se
