/-
  Mails: what the laws make moves of letters of; those that came in.
-/
import Derived.Test.YtiolkeghgodggaiLi
namespace Go.Proofs.Ytiolkeghgodggai.Se
open Go.ChangeShapes Go.WideShapes Go.ChangeAt Go.RowKit Go.Deep

namespace Plain
structure Ml where
  op : Bool
  frm : Int
  to : Int
  id : Int
  data : List Int
  deriving DecidableEq, Inhabited
/-- The move of a mail. -/
def leOf (m : Ml) : Le := if m.op = true then ⟨2, m.frm % 4, m.to % 4, m.id % 31, []⟩ else ⟨1, m.frm % 4, m.to % 4, 0, m.data.take 20⟩
def lettersF (l : List Ml) : List Le := (l.take 60).map leOf
theorem lettersF_len (l : List Ml) : (lettersF l).length ≤ 60 := by simp [lettersF]; omega
theorem leOf_may (m : Ml) : MayL (leOf m) := by
  unfold leOf MayL
  split
  · exact ⟨.inr rfl, by dsimp only; omega, by dsimp only; omega, by dsimp only; omega, by simp⟩
  · exact ⟨.inl rfl, by dsimp only; omega, by dsimp only; omega, by dsimp only; omega, by dsimp only; rw [List.length_take]; omega⟩
theorem lettersF_may (l : List Ml) : ∀ x, x ∈ lettersF l → MayL x := by
  intro x hx
  obtain ⟨m, _, rfl⟩ := List.mem_map.1 hx
  exact leOf_may m
theorem lettersF_step (l : List Ml) (k : Nat) (h : k < l.length) (h2 : k < 60) : lettersF (l.take (k + 1)) = lettersF (l.take k) ++ [leOf (l.getD k default)] := by
  unfold lettersF
  rw [List.take_take, List.take_take, show min 60 (k + 1) = k + 1 by omega, show min 60 k = k by omega, List.take_succ_eq_append_getElem h, List.map_append]
  simp [h]
theorem lettersF_take (l : List Ml) (k : Nat) (h : l.length ≤ k ∨ 60 ≤ k) : lettersF (l.take k) = lettersF l := by
  unfold lettersF
  rcases h with h | h
  · rw [List.take_of_length_le h]
  · rw [List.take_take, show min 60 k = 60 by omega]
end Plain
/-- A mail, and where its bytes lie. -/
structure RM where
  m : Plain.Ml
  p : Option Addr
  c : Nat
  deriving Inhabited
def encM : Enc RM := ⟨5, fun r => [.bool r.m.op, .int .i64 r.m.frm, .int .i64 r.m.to, .int .i64 r.m.id, .slice r.p r.m.data.length r.c], fun _ => rfl, fun a u hu => by
  simp only [List.mem_cons, List.not_mem_nil, or_false] at hu
  rcases hu with rfl | rfl | rfl | rfl | rfl <;> rfl, by decide⟩
/-- The cells of a mail. -/
structure CellM (w : World) (b o : Nat) (r : RM) : Prop where
  c0 : w.cell? ⟨b, o, none⟩ = some (.bool r.m.op)
  c1 : w.cell? ⟨b, o + 1, none⟩ = some (.int .i64 r.m.frm)
  c2 : w.cell? ⟨b, o + 2, none⟩ = some (.int .i64 r.m.to)
  c3 : w.cell? ⟨b, o + 3, none⟩ = some (.int .i64 r.m.id)
  c4 : w.cell? ⟨b, o + 4, none⟩ = some (.slice r.p r.m.data.length r.c)
theorem holdsM {w : World} {p : Option Addr} {l : List RM} (h : encM.Holds w p l) (h0 : 0 < l.length) : ∃ b off, p = some ⟨b, off, none⟩ ∧ b < w.heap.size ∧ ∀ j, j < l.length → CellM w b (off + j * 5) (l.getD j default) := by
  obtain ⟨b, off, rfl, hb, hc⟩ := h.at default h0
  refine ⟨b, off, rfl, hb, fun j hj => ⟨?_, ?_, ?_, ?_, ?_⟩⟩
  · exact hc j 0 _ hj (by decide) rfl
  · exact hc j 1 _ hj (by decide) rfl
  · exact hc j 2 _ hj (by decide) rfl
  · exact hc j 3 _ hj (by decide) rfl
  · exact hc j 4 _ hj (by decide) rfl
/-- The numbers of a mail are integers of the machine. -/
structure InM (d : Plain.Ml) : Prop where
  f : -9223372036854775808 ≤ d.frm ∧ d.frm ≤ 9223372036854775807
  t : -9223372036854775808 ≤ d.to ∧ d.to ≤ 9223372036854775807
  i : -9223372036854775808 ≤ d.id ∧ d.id ≤ 9223372036854775807
/-- Mails that lie in memory. -/
structure Mm (w : World) (p : Option Addr) (R : List RM) : Prop where
  hd : encM.Holds w p R
  bs : ∀ r, r ∈ R → By w.heap.size w r.p r.c r.m.data ∧ InM r.m
theorem Mm.grow {w w' : World} {p : Option Addr} {R : List RM} (h : Mm w p R) (g : Below w.heap.size w w') : Mm w' p R :=
  ⟨h.hd.grow g, fun r hr => ⟨((h.bs r hr).1.grow g).top, (h.bs r hr).2⟩⟩
/-- The fields of a mail: a truth value, numbers, and a slice of bytes. -/
def FieldsM (fs : Array Field) : Prop := fs.size = 5 ∧ (∀ (j : Nat) (f : Field), fs[j]? = some f → f.offset = j ∧ Try.prog.cellsOf f.type = 1) ∧ (∀ f : Field, fs[0]? = some f → Try.prog.underlying f.type = some .bool) ∧ (∀ (j : Nat) (f : Field), fs[j]? = some f → 0 < j → j < 4 → Try.prog.underlying f.type = some (.int .i64)) ∧ ∀ f : Field, fs[4]? = some f → Try.prog.underlying f.type = some (.slice 5)
/-- The slice v holds the mails R. -/
def SegM (w : World) (v : Value) (R : List RM) : Prop := R.length ≤ 9223372036854775807 ∧ ∃ p cap, v = .slice p R.length cap ∧ Mm w p R
theorem mls_open {H : Type} {enc : TypeId × Value → H} {W : World} {d : DataW H} {p : List MemPlace} {a : Option Addr} {len cap : Nat} {t e : TypeId} {fs : Array Field}
    (ht : Try.prog.underlying t = some (.slice e)) (he : Try.prog.underlying e = some (.struct fs)) (ce : Try.prog.cellsOf e = 5) (hf : FieldsM fs)
    (h : DataW.Trod enc Try.prog W 0 (fun _ => true) true t (.slice a len cap) d p) : ∃ R : List RM, SegM W (.slice a len cap) R := by
  obtain ⟨fuel, hfu⟩ := h
  obtain ⟨h5, hfo, hf0, hfi, hfb⟩ := hf
  rcases open_slice_structs ht he ce h5 hfo hfu with ⟨rfl, rfl, rfl⟩ | ⟨ad, rfl, hl, hm, _, hx⟩
  · exact ⟨[], by simp, none, 0, rfl, ⟨Enc.Holds.nil _ _, fun r hr => (nomatch hr)⟩⟩
  have hml : cap ≤ 9223372036854775807 := hm
  have hk : ∀ i, i < len → ∃ r : RM, (∀ j u, j < 5 → (encM.enc r)[j]? = some u → W.cell? (ad.add (i * 5 + j)) = some u) ∧ By W.heap.size W r.p r.c r.m.data ∧ InM r.m := by
    intro i hi
    have num : ∀ j, 0 < j → j < 4 → ∃ z : Int, W.cell? (ad.add (i * 5 + j)) = some (.int .i64 z) ∧ -9223372036854775808 ≤ z ∧ z ≤ 9223372036854775807 := fun j h0 hj => by
      have hj2 : fs[j]? = some (fs[j]'(by omega)) := Array.getElem?_eq_getElem _
      obtain ⟨v, n, y, h1, h2⟩ := hx i hi j _ hj2
      obtain ⟨z, h3, _, h4⟩ := DataW.trod_int (hfi j _ hj2 h0 hj) h2
      simp only [List.cons.injEq, and_true] at h3
      subst h3
      exact ⟨z, h1, bounds_i64 h4⟩
    have hj0 : fs[0]? = some (fs[0]'(by omega)) := Array.getElem?_eq_getElem _
    obtain ⟨v0, n0, y0, g1, g2⟩ := hx i hi 0 _ hj0
    obtain ⟨z0, g3, _⟩ := DataW.trod_bool (hf0 _ hj0) g2
    simp only [List.cons.injEq, and_true] at g3
    subst g3
    have e0 := g1
    obtain ⟨z1, e1, r1⟩ := num 1 (by omega) (by omega)
    obtain ⟨z2, e2, r2⟩ := num 2 (by omega) (by omega)
    obtain ⟨z3, e3, r3⟩ := num 3 (by omega) (by omega)
    have hj4 : fs[4]? = some (fs[4]'(by omega)) := Array.getElem?_eq_getElem _
    obtain ⟨v, n, y, h1, h2⟩ := hx i hi 4 _ hj4
    obtain ⟨q, c, l, rfl, hb⟩ := bytes_open (hfb _ hj4) h2
    refine ⟨⟨⟨z0, z1, z2, z3, l⟩, q, c⟩, fun j u hj hu => ?_, hb, ⟨r1, r2, r3⟩⟩
    have : j = 0 ∨ j = 1 ∨ j = 2 ∨ j = 3 ∨ j = 4 := by omega
    rcases this with rfl | rfl | rfl | rfl | rfl
    · have hu : some (Value.bool z0) = some u := hu; rw [← hu]; exact e0
    · have hu : some (Value.int .i64 z1) = some u := hu; rw [← hu]; exact e1
    · have hu : some (Value.int .i64 z2) = some u := hu; rw [← hu]; exact e2
    · have hu : some (Value.int .i64 z3) = some u := hu; rw [← hu]; exact e3
    · have hu : some (Value.slice q l.length c) = some u := hu; rw [← hu]; exact h1
  obtain ⟨R, hR, hq⟩ := list_of len _ hk
  subst hR
  refine ⟨R, by omega, some ad, cap, rfl, ⟨?_, fun r hr => ?_⟩⟩
  · by_cases h0 : 0 < R.length
    · obtain ⟨sb, so, spot⟩ := ad
      have hz0 := (hq 0 h0).1 0 _ (by omega) rfl
      have hspot : spot = none := by simpa [Addr.add] using World.cell?_spot hz0
      subst hspot
      refine encM.of_cells (fun _ => ?_) fun i hi j u hj hu => ?_
      · rw [add_at] at hz0; exact World.block_lt_of_cell? (w := W) (h := hz0)
      · have := (hq i hi).1 j u hj hu
        rw [add_at, ← Nat.add_assoc] at this
        exact this
    · exact fun x => absurd x h0
  · obtain ⟨i, hi, rfl⟩ := List.getElem_of_mem hr
    have := (hq i hi).2
    rw [List.getD_eq_getElem?_getD, List.getElem?_eq_getElem hi] at this
    exact this
end Go.Proofs.Ytiolkeghgodggai.Se
