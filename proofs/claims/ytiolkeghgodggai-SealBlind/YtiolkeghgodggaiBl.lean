/-
  What others' letters hold does not matter: plain; bytes of bytes that came in; copy.
-/
import Derived.Test.YtiolkeghgodggaiAx
import Derived.Laws.CopyOwn
namespace Go.Proofs.Ytiolkeghgodggai.Se
open Go.ChangeShapes Go.WideShapes Go.ChangeAt Go.RowKit Go.Shelf Go.Sort Go.Lib Go.Deep

namespace Plain
/-- The first n of some bytes, with zeros behind them. -/
def pad (bl : List Int) (n : Nat) : List Int := (List.range n).map (fun j => bl.getD j 0)
theorem pad_len (bl : List Int) (n : Nat) : (pad bl n).length = n := by simp [pad]
theorem pad_get (bl : List Int) (n j : Nat) (h : j < n) : (pad bl n).getD j 0 = bl.getD j 0 := by simp [pad, h]
/-- A move whose bytes are others. -/
def otherL (w : Int) (bl : List Int) (x : Le) : Le := if x.kind = 1 ∧ x.to ≠ w then { x with data := pad bl x.data.length } else x
/-- What others there are. -/
def othersAt (B : List (List Int)) (i : Nat) : List Int := B.getD i []
def blindL (w : Int) (B : List (List Int)) (l : List Le) : List Le := (List.range l.length).map fun i => otherL w (othersAt B i) (l.getD i default)
theorem blindL_len (w : Int) (B : List (List Int)) (l : List Le) : (blindL w B l).length = l.length := by simp [blindL]
theorem blindL_at (w : Int) (B : List (List Int)) (l : List Le) {i : Nat} (h : i < l.length) : (blindL w B l).getD i default = otherL w (othersAt B i) (l.getD i default) := by
  unfold blindL
  rw [List.getD_eq_getElem?_getD, List.getElem?_map, List.getElem?_range h]
  rfl
theorem otherL_alike (w : Int) (bl : List Int) (x : Le) : AlikeL w x (otherL w bl x) := by
  unfold otherL
  split
  · rename_i h
    exact ⟨rfl, rfl, rfl, rfl, by dsimp only; rw [pad_len], fun e => absurd e h.2⟩
  · exact ⟨rfl, rfl, rfl, rfl, rfl, fun _ => rfl⟩
theorem blind_run (w : Int) (B : List (List Int)) (l : List Le) (k : Nat) (hk : k ≤ l.length) : Alike w (officeF Off.nil (l.take k)) (officeF Off.nil ((blindL w B l).take k)) := by
  induction k with
  | zero => exact Alike.refl w _
  | succ k ih =>
    rw [officeF_take _ _ _ (by omega), officeF_take _ _ _ (by rw [blindL_len]; omega), blindL_at w B l (by omega)]
    exact (ih (by omega)).step (otherL_alike w _ _)
theorem blind_at (w : Int) (B : List (List Int)) (l : List Le) {i : Nat} (h : i < l.length) :
    ((mailF Off.nil l).getD i default).code = ((mailF Off.nil (blindL w B l)).getD i default).code ∧ ((mailF Off.nil l).getD i default).id = ((mailF Off.nil (blindL w B l)).getD i default).id ∧ ((mailF Off.nil l).getD i default).size = ((mailF Off.nil (blindL w B l)).getD i default).size ∧
      (¬ ((l.getD i default).kind = 2 ∧ (l.getD i default).«to» ≠ w) → ((mailF Off.nil l).getD i default).data = ((mailF Off.nil (blindL w B l)).getD i default).data) := by
  rw [mailF_at _ _ _ h, mailF_at _ _ _ (by rw [blindL_len]; exact h), blindL_at w B l h]
  exact (blind_run w B l i (by omega)).told (otherL_alike w _ _)
end Plain
/-- Bytes of a slice of slices. -/
structure RB where
  d : List Int
  p : Option Addr
  c : Nat
  deriving Inhabited
def encBs : Enc RB := ⟨1, fun r => [.slice r.p r.d.length r.c], fun _ => rfl, fun a u hu => by
  simp only [List.mem_cons, List.not_mem_nil, or_false] at hu
  subst hu; rfl, by decide⟩
/-- Slices of bytes that lie in memory. -/
structure Mb (w : World) (p : Option Addr) (R : List RB) : Prop where
  hd : encBs.Holds w p R
  bs : ∀ r, r ∈ R → By w.heap.size w r.p r.c r.d
theorem Mb.grow {w w' : World} {p : Option Addr} {R : List RB} (h : Mb w p R) (g : Below w.heap.size w w') : Mb w' p R :=
  ⟨h.hd.grow g, fun r hr => ((h.bs r hr).grow g).top⟩
def SegBs (w : World) (v : Value) (R : List RB) : Prop := R.length ≤ 9223372036854775807 ∧ ∃ p cap, v = .slice p R.length cap ∧ Mb w p R
theorem bss_open {H : Type} {enc : TypeId × Value → H} {W : World} {d : DataW H} {p : List MemPlace} {a : Option Addr} {len cap : Nat} {t e : TypeId}
    (ht : Try.prog.underlying t = some (.slice e)) (he : Try.prog.underlying e = some (.slice 5)) (ce : Try.prog.cellsOf e = 1)
    (h : DataW.Trod enc Try.prog W 0 (fun _ => true) true t (.slice a len cap) d p) : ∃ R : List RB, SegBs W (.slice a len cap) R := by
  obtain ⟨fuel, hfu⟩ := h
  rcases open_slice ht hfu with ⟨h0, _⟩ | ⟨ad, l, c, m, n, D, Pl, hc, hb, hl, hm, hmm, _, hx⟩
  · simp only [Value.cells, List.cons.injEq, Value.slice.injEq, and_true] at h0
    obtain ⟨rfl, rfl, rfl⟩ := h0
    exact ⟨[], by simp, none, 0, rfl, ⟨Enc.Holds.nil _ _, fun r hr => (nomatch hr)⟩⟩
  simp only [Value.cells, List.cons.injEq, Value.slice.injEq, and_true] at hc
  obtain ⟨rfl, rfl, rfl⟩ := hc
  have hml : cap ≤ 9223372036854775807 := hm
  have hlm : len ≤ m := by rw [hmm]; split <;> omega
  have hk : ∀ i, i < len → ∃ r : RB, W.cell? (ad.add i) = some (.slice r.p r.d.length r.c) ∧ By W.heap.size W r.p r.c r.d := by
    intro i hi
    obtain ⟨cs', h1, h2⟩ := hx i (by omega)
    rw [ce, Nat.mul_one] at h1
    obtain ⟨_, hlen, hcell⟩ := World.cells?_some h1
    have e0 := hcell 0 (by omega)
    obtain ⟨v, rfl⟩ : ∃ v, cs' = [v] := by
      match cs', hlen with
      | [v], _ => exact ⟨v, rfl⟩
    obtain ⟨q, c, l, rfl, hby⟩ := bytes_open he h2
    refine ⟨⟨l, q, c⟩, ?_, hby⟩
    rw [add_add] at e0
    simpa using e0
  obtain ⟨R, hR, hq⟩ := list_of len _ hk
  subst hR
  refine ⟨R, by omega, some ad, cap, rfl, ⟨?_, fun r hr => ?_⟩⟩
  · by_cases h0 : 0 < R.length
    · obtain ⟨sb, so, spot⟩ := ad
      have hz0 := (hq 0 h0).1
      have hspot : spot = none := by simpa [Addr.add] using World.cell?_spot hz0
      subst hspot
      refine encBs.of_cells (fun _ => ?_) fun i hi j u hj hu => ?_
      · rw [add_at] at hz0; exact World.block_lt_of_cell? (w := W) (h := hz0)
      · have hj1 : j < 1 := hj
        have e : j = 0 := by omega
        subst e
        have hu : some (Value.slice (R.getD i default).p (R.getD i default).d.length (R.getD i default).c) = some u := hu
        rw [← hu]
        have := (hq i hi).1
        rw [add_at] at this
        show W.cell? ⟨sb, so + i * 1 + 0, none⟩ = _
        rw [Nat.mul_one, Nat.add_zero]
        exact this
    · exact fun x => absurd x h0
  · obtain ⟨i, hi, rfl⟩ := List.getElem_of_mem hr
    have := (hq i hi).2
    rw [List.getD_eq_getElem?_getD, List.getElem?_eq_getElem hi] at this
    exact this
/-- What a row of zeros has become behind copy. -/
theorem copied {w : World} {g n : Nat} {c : Array Value} {bl : List Int} (hn : c.size = n) (hc : ∀ i, i < n → c[i]? = some (.int .u8 0))
    (h : w.heap[g]? = some (.cells (splice c.toList 0 (encB.vals (bl.take n))).toArray 5 (0, 0))) : w.rowIs g 5 n (fun j => .int .u8 ((Plain.pad bl n).getD j 0)) := by
  have vl : ∀ l : List Int, (encB.vals l).length = l.length := fun l => by rw [encB.vals_len]; exact Nat.mul_one _
  refine ⟨_, h, ?_, fun i hi => ?_⟩
  · simp [splice, vl, hn]; omega
  · show _ = some (Value.int .u8 ((Plain.pad bl n).getD i 0))
    rw [Plain.pad_get bl n i hi]
    simp only [splice, List.take_zero, List.nil_append, List.getElem?_toArray]
    by_cases hb : i < bl.length
    · rw [List.getElem?_append_left (by rw [vl, List.length_take]; omega), encB_at (by rw [List.length_take]; omega)]
      simp [hi]
    · rw [List.getElem?_append_right (by rw [vl, List.length_take]; omega), List.getElem?_drop, vl, List.length_take]
      rw [show 0 + min n bl.length + (i - min n bl.length) = i by omega, Array.getElem?_toList, hc i hi]
      simp [List.getD_eq_getElem?_getD, List.getElem?_eq_none (show bl.length ≤ i by omega)]

/-- copy into a row of zeros that was just made. -/
theorem copy_run (B : Nat) (w1 : World) (n : Nat) (hn9 : n ≤ 9223372036854775807) (a : Option Addr) (c : Nat) (bl : List Int) (hS : By B (w1.alloc (.cells (madeCells #[.int .u8 0] n) 5)) a c bl) :
    ∃ W', (Builtin.copy_ #[42, 42] 3 #[.slice (some ⟨w1.heap.size, 0, none⟩) n n, .slice a bl.length c]).run Try.prog (w1.alloc (.cells (madeCells #[.int .u8 0] n) 5)) = .ok (goInt ((min bl.length n : Nat) : Int)) W' ∧
      By B W' (some ⟨w1.heap.size, 0, none⟩) n (Plain.pad bl n) ∧ Below w1.heap.size w1 W' := by
  have hb : Below w1.heap.size w1 (w1.alloc (.cells (madeCells #[.int .u8 0] n) 5)) := (Below.refl _ _).alloc (Nat.le_refl _) _
  have vl : ∀ l : List Int, (encB.vals l).length = l.length := fun l => by rw [encB.vals_len]; exact Nat.mul_one _
  obtain ⟨cc, hcc, hcn, hcz⟩ := World.rowIs_made w1 (.int .u8 0) n 5
  by_cases h0 : min bl.length n = 0
  · refine ⟨_, ?_, By.of_row (f := fun j => .int .u8 ((Plain.pad bl n).getD j 0)) ⟨cc, hcc, hcn, fun i hi => ?_⟩ (Plain.pad_len _ _) hn9 (fun j _ => rfl), hb⟩
    · rw [h0]
      exact run_copy_none _ 42 42 3 5 _ a n n bl.length c Try.underlying42 (by kernel_rfl) h0
    · show _ = some (Value.int .u8 ((Plain.pad bl n).getD i 0))
      rw [hcz i hi, Plain.pad_get bl n i hi]
      have : bl = [] := List.length_eq_zero_iff.1 (by omega)
      rw [this]; rfl
  · obtain ⟨bb, oo, rfl, _, _, hcl⟩ := hS.cl (by omega)
    have hlen : (encB.vals (bl.take n)).length = min bl.length n := by rw [vl, List.length_take]; omega
    have hr := run_copy_row (P := Try.prog) (w1.alloc (.cells (madeCells #[.int .u8 0] n) 5)) 42 42 3 5 w1.heap.size 0 n n ⟨bb, oo, none⟩ bl.length c cc 5 (encB.vals (bl.take n)) Try.underlying42 (by kernel_rfl) hcc
      hlen (fun j v hj => by
        have hjl : j < (bl.take n).length := by
          rcases Nat.lt_or_ge j (bl.take n).length with h1 | h1
          · exact h1
          · rw [List.getElem?_eq_none (by rw [vl]; exact h1)] at hj; cases hj
        rw [encB_at hjl] at hj
        rw [List.length_take] at hjl
        injection hj with hj
        rw [add_at', hcl j (by omega), ← hj]
        congr 2
        rw [List.getD_eq_getElem?_getD, List.getD_eq_getElem?_getD, List.getElem?_take, if_pos (by omega)]) (by rw [hlen]; omega) (encB.vals_cell _)
    rw [hlen] at hr
    refine ⟨_, hr, By.of_row (copied hcn hcz ?_) (Plain.pad_len _ _) hn9 (fun j _ => rfl), below_setRow hb (Nat.le_refl _) _⟩
    have := setRow_heap _ w1.heap.size cc (List.take 0 cc.toList ++ encB.vals (bl.take n) ++ List.drop (0 + min bl.length n) cc.toList).toArray 5 _ hcc
    rw [this]
    simp [splice, hlen]
end Go.Proofs.Ytiolkeghgodggai.Se
