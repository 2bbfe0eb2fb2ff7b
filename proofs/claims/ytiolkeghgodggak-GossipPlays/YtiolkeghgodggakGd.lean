/-
  Turns: turns of talks, in memory.
-/
import Derived.Test.YtiolkeghgodggakGt
import Derived.Test.YtiolkeghgodggakGc
import Derived.Test.YtiolkeghgodggakG1
import Derived.Test.YtiolkeghgodggakPk
import Derived.Test.YtiolkeghgodggakAp
import Derived.Carry
namespace Go.Proofs.Ytiolkeghgodggak
open Go.RowKit Go.Shelf Go.Sort

theorem Try.infoTu : (Try.prog.info? 44).map (fun i => (i.zero, i.size, i.bytes)) = some (some (.agg #[.int .i64 0, .int .i64 0, .int .i64 0, .int .i64 0, .int .i64 0, .int .i64 0]), 6, 48) := by kernel_rfl
theorem Enc.snoc1 {α : Type} {E : Enc α} {W : World} {B n t e bytes : Nat} {i : TypeInfo} {z v : Value} {l : List α} (ht : Try.prog.underlying t = some (.slice e)) (hi : Try.prog.info? e = some i) (hz : i.zero = some z) (hsize : i.size = E.n) (hby : i.bytes = bytes) (hzs : z.cells.size = E.n)
    (hown : W.ownsRow B e E.n v n (E.vals l)) (hn : l.length = n) (hb : n ≤ 1000) (hbytes : (n + 1) * bytes ≤ 140737488355328) (hB : B ≤ W.heap.size) (a : α) :
    ∃ p c U, (Builtin.append_ #[t, t] t #[v, .slice (some ⟨W.heap.size, 0, none⟩) 1 1]).run Try.prog (W.alloc (.cells (E.enc a).toArray e)) = .ok (.slice p (n + 1) c) U ∧ U.ownsRow B e E.n (.slice p (n + 1) c) (n + 1) (E.vals (l ++ [a])) ∧
      (W.alloc (.cells (E.enc a).toArray e)).grownBy U v.ownBlock := by
  have bel : Below W.heap.size W (W.alloc (.cells (E.enc a).toArray e)) := (Below.refl _ _).alloc (Nat.le_refl _) _
  obtain ⟨v', U, h1, h2, h3⟩ := E.app (m := 1) (c := 1) (q := [a]) ht hi hz hsize hby hzs (owns_grow hown bel) (E.one_holds W a e) rfl (fun e => by cases e) (by omega) hbytes (Nat.le_trans hB bel.size)
  obtain ⟨p, c, rfl, _⟩ := E.owns h2 (by rw [List.length_append, hn]; rfl)
  exact ⟨p, c, U, h1, h2, h3⟩
/-- Turns in a row of the call's own. -/
structure TI (w W : World) (v : Value) (ts : List Plain.Tu) : Prop where
  ow : W.ownsRow w.heap.size 44 6 v ts.length (encT.vals ts)
  be : Below w.heap.size w W
namespace TI
variable {w W W' : World} {v : Value} {ts : List Plain.Tu}
theorem nil (w : World) : TI w w (.slice none 0 0) [] := ⟨World.ownsRow_nil _ _ _ _, Below.refl _ _⟩
theorem grow (h : TI w W v ts) (g : Below W.heap.size W W') : TI w W' v ts := ⟨owns_grow h.ow g, h.be.trans (g.mono h.be.size)⟩
theorem snoc (h : TI w W v ts) (hb : ts.length ≤ 1000) (y : Plain.Tu) :
    ∃ p c U, (Builtin.append_ #[23, 23] 23 #[v, .slice (some ⟨W.heap.size, 0, none⟩) 1 1]).run Try.prog (W.alloc (boxT y)) = .ok (.slice p (ts.length + 1) c) U ∧ TI w U (.slice p (ts.length + 1) c) (ts ++ [y]) := by
  obtain ⟨j0, ji, jz0, jz1, jz2⟩ := info_parts Try.infoTu
  obtain ⟨p, c, U, h1, h2, h3⟩ := Enc.snoc1 (E := encT) Try.underlying23 ji jz0 jz1 jz2 rfl h.ow rfl hb (by omega) h.be.size y
  have bel : Below W.heap.size W (W.alloc (boxT y)) := (Below.refl _ _).alloc (Nat.le_refl _) _
  have hlen : (ts ++ [y]).length = ts.length + 1 := by simp
  exact ⟨p, c, U, h1, ⟨by rw [hlen]; exact h2, (h.be.trans (bel.mono h.be.size)).grown h3 (Nat.le_trans h.be.size bel.size) (fun j hj => (h.ow.lt j hj).1)⟩⟩
/-- append of what another slice holds. -/
theorem app (h : TI w W v ts) {p : Option Addr} {q : List Plain.Tu} {m c : Nat} (hq : encT.Holds W p q) (hm : q.length = m) (hnil : p = none → c = 0) (hb : ts.length + m ≤ 1000) :
    ∃ p' c' U, (Builtin.append_ #[23, 23] 23 #[v, .slice p m c]).run Try.prog W = .ok (.slice p' (ts.length + m) c') U ∧ TI w U (.slice p' (ts.length + m) c') (ts ++ q) := by
  obtain ⟨j0, ji, jz0, jz1, jz2⟩ := info_parts Try.infoTu
  obtain ⟨v', U, h1, h2, h3⟩ := encT.app (c := c) Try.underlying23 ji jz0 jz1 jz2 rfl h.ow hq hm hnil (by omega) (by omega) h.be.size
  obtain ⟨p', c', rfl, _⟩ := encT.owns h2 (by rw [List.length_append, hm])
  have hlen : (ts ++ q).length = ts.length + m := by rw [List.length_append, hm]
  exact ⟨p', c', U, h1, ⟨by rw [hlen]; exact h2, h.be.grown h3 h.be.size (fun j hj => (h.ow.lt j hj).1)⟩⟩
theorem form (h : TI w W v ts) : ∃ p c, v = .slice p ts.length c ∧ (p = none → c = 0) ∧ encT.Holds W p ts := by
  obtain ⟨p, c, e, hh, hn, _⟩ := encT.owns h.ow rfl
  exact ⟨p, c, e, hn, hh⟩
end TI
/-- The cells of a turn, by their places. -/
def tuF (t : Plain.Tu) (j : Nat) : Value := if j = 0 then .int .i64 t.kind else if j = 1 then .int .i64 t.who else if j = 2 then .int .i64 t.to else if j = 3 then .int .i64 t.label else if j = 4 then .int .i64 t.key else .int .i64 t.value
theorem rowT_new (w : World) (t : Plain.Tu) : (w.alloc (boxT t)).rowIs w.heap.size 44 6 (tuF t) := by
  refine World.rowIs_alloc _ _ 44 _ fun i hi => ?_
  have hi4 : i < 6 := hi
  have : i = 0 ∨ i = 1 ∨ i = 2 ∨ i = 3 ∨ i = 4 ∨ i = 5 := by omega
  rcases this with rfl | rfl | rfl | rfl | rfl | rfl <;> rfl
theorem rowT_cells {w : World} {b : Nat} {t : Plain.Tu} (h : w.rowIs b 44 6 (tuF t)) : CellT w b 0 t :=
  ⟨h.cell (i := 0) (by omega), h.cell (i := 1) (by omega), h.cell (i := 2) (by omega), h.cell (i := 3) (by omega), h.cell (i := 4) (by omega), h.cell (i := 5) (by omega)⟩
/-- A turn is laid over another one. -/
def setT (w : World) (b : Nat) (t : Plain.Tu) : World :=
  (((((w.setCell ⟨b, 0, none⟩ (.int .i64 t.kind)).setCell ⟨b, 1, none⟩ (.int .i64 t.who)).setCell ⟨b, 2, none⟩ (.int .i64 t.to)).setCell ⟨b, 3, none⟩ (.int .i64 t.label)).setCell ⟨b, 4, none⟩ (.int .i64 t.key)).setCell ⟨b, 5, none⟩ (.int .i64 t.value)
theorem rowT_over {w : World} {b : Nat} {f : Nat → Value} (h : w.rowIs b 44 6 f) (t : Plain.Tu) : (setT w b t).rowIs b 44 6 (tuF t) := by
  have e1 := (((((h.set 0 (.int .i64 t.kind)).set 1 (.int .i64 t.who)).set 2 (.int .i64 t.to)).set 3 (.int .i64 t.label)).set 4 (.int .i64 t.key)).set 5 (.int .i64 t.value)
  refine e1.congr fun j hj => ?_
  have : j = 0 ∨ j = 1 ∨ j = 2 ∨ j = 3 ∨ j = 4 ∨ j = 5 := by omega
  rcases this with rfl | rfl | rfl | rfl | rfl | rfl <;> rfl
theorem below_setT {B b : Nat} {w0 w : World} (h : Below B w0 w) (hb : B ≤ b) (t : Plain.Tu) : Below B w0 (setT w b t) :=
  (((((h.setCell (p := ⟨b, 0, none⟩) hb _).setCell (p := ⟨b, 1, none⟩) hb _).setCell (p := ⟨b, 2, none⟩) hb _).setCell (p := ⟨b, 3, none⟩) hb _).setCell (p := ⟨b, 4, none⟩) hb _).setCell (p := ⟨b, 5, none⟩) hb _
theorem laidT {w wr : World} {b : Nat} {f : Nat → Value} (h : w.rowIs b 44 6 f) (hb : Below b wr w) (t y : Plain.Tu) (hy : y = t) (U : World) (hU : U = setT w b t) : U.drew.rowIs b 44 6 (tuF y) ∧ Below b wr U.drew := by
  have r := rowT_over h t
  have g := below_setT hb (Nat.le_refl b) t
  rw [← hU] at r g
  rw [hy]
  exact ⟨r.of_block rfl, g.drew⟩
end Go.Proofs.Ytiolkeghgodggak
