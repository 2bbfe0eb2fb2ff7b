/-
  The newest of each key, plain; what MergeNewest walks over.
-/
import Derived.Test.YthdhcnjebigdfafEo
import Derived.Test.YthdhcnjebigdfafEr
namespace Go.Proofs.Ythdhcnjebigdfaf
namespace Plain

theorem eofs_le (l : List En) (N : Nat) (h : N ≤ l.length) : (eofs l N).length ≤ N := by
  have := (merge_len [] ((l.take N).map eof)).2
  rw [List.length_map, List.length_take] at this
  unfold eofs
  unfold mergeL at this
  simp at this ⊢
  omega
theorem eof_in {l : List En} {N i : Nat} (hN : N ≤ l.length) (hi : i < N) : eof (en l i) ∈ (l.take N).map eof := by
  refine List.mem_map.2 ⟨en l i, ?_, rfl⟩
  rw [en_lt (by omega)]
  exact List.mem_take_iff_getElem.2 ⟨i, by omega, rfl⟩
/-- Of each key the newest stands there. -/
theorem eofs_newest {l : List En} {N i k : Nat} (hN : N ≤ l.length) (hi : i < N) (hk : k < (eofs l N).length) (he : (en (eofs l N) k).key = (eof (en l i)).key) : newer (eof (en l i)) (en (eofs l N) k) = false := by
  obtain ⟨x, hx, hxk, hxn⟩ := fold_has (a := []) List.Pairwise.nil ((l.take N).map eof) (eof (en l i)) (.inl (eof_in hN hi))
  have hs := (eofs_six l N hN).srt
  have e1 := look_mem hs hx
  have e2 := look_mem hs (en_mem hk)
  rw [he, ← hxk, e1] at e2
  injection e2 with e2
  rw [← e2]
  exact hxn
/-- Whether a key stands among the first k. -/
def hadB (q : Int) (A : List En) (k : Nat) : Bool := (A.take k).any (fun x => x.key == q)
theorem hadB_succ {q : Int} {A : List En} {k : Nat} (hk : k < A.length) : hadB q A (k + 1) = (hadB q A k || ((en A k).key == q)) := by
  unfold hadB
  rw [List.take_succ_eq_append_getElem hk, List.any_append, en_lt hk]
  simp
theorem eofs_had {l : List En} {N i : Nat} (hN : N ≤ l.length) (hi : i < N) : hadB (eof (en l i)).key (eofs l N) (eofs l N).length = true := by
  obtain ⟨x, hx, hxk, _⟩ := fold_has (a := []) List.Pairwise.nil ((l.take N).map eof) (eof (en l i)) (.inl (eof_in hN hi))
  unfold hadB
  rw [List.take_length, List.any_eq_true]
  exact ⟨x, hx, by simpa using hxk⟩
/-- Whether an entry is one of the first i that were written. -/
def wrB (l : List En) (z : En) (i : Nat) : Bool := (l.take i).any (fun x => eof x == z)
theorem wrB_succ {l : List En} {z : En} {i : Nat} (hi : i < l.length) : wrB l z (i + 1) = (wrB l z i || (eof (en l i) == z)) := by
  unfold wrB
  rw [List.take_succ_eq_append_getElem hi, List.any_append, en_lt hi]
  simp
theorem eofs_written {l : List En} {N k : Nat} (hk : k < (eofs l N).length) : wrB l (en (eofs l N) k) N = true := by
  have h1 := fold_mem (m := (l.take N).map eof) (en_mem hk)
  obtain ⟨y, hy, e⟩ := List.mem_map.1 h1
  unfold wrB
  rw [List.any_eq_true]
  exact ⟨y, hy, by rw [beq_iff_eq]; exact e⟩
theorem eofs_pos {l : List En} {N : Nat} (hN : N ≤ l.length) (h0 : 0 < N) : 0 < (eofs l N).length := by
  obtain ⟨x, hx, _, _⟩ := fold_has (a := []) List.Pairwise.nil ((l.take N).map eof) (eof (en l 0)) (.inl (eof_in hN h0))
  exact List.length_pos_of_mem hx
theorem turned_in {l : List En} {N t i : Nat} {P : En → Prop} (h : ∀ j, j < l.length → P (en l j)) (hN : N ≤ l.length) (h0 : 0 < N) : ∀ j, j < (turned l N t i).length → P (en (turned l N t i) j) := by
  intro j hj
  obtain ⟨k, _, e⟩ := turned_mem.1 (en_mem hj)
  rw [e]
  have : (k + t) % N < N := Nat.mod_lt _ h0
  exact h _ (by omega)
end Plain
open Go.RowKit

theorem eqlE (x y : Plain.En) (w : World) : (binOp .eql 31 (aggE x) (aggE y)).run Try.prog w = .ok (.bool (x == y)) w := by
  have u3 := Try.underlying3
  have u4 := Try.underlying4
  have a3 := Try.isAgg3
  have z3 := Try.sizeOf3
  have a4 := Try.isAgg4
  have z4 := Try.sizeOf4
  have hS : Try.prog.underlying 31 = some (.struct (Try.prog.fieldsOf 31)) := by kernel_rfl
  have hp : Try.prog.stoodInHeld 31 = false := by kernel_rfl
  obtain ⟨xk, xv, xt, xo, xg⟩ := x
  obtain ⟨yk, yv, yt, yo, yg⟩ := y
  rw [run_eql_struct, show (10000 : Nat) = 9999 + 1 from rfl, run_equalIn_agg w 9999 31 _ _ hS hp]
  simp only [Program.fieldsOf, Try.underlying31]
  go_simp
  by_cases h1 : xk = yk <;> by_cases h2 : xv = yv <;> by_cases h3 : xt = yt <;> by_cases h4 : xo = yo <;> by_cases h5 : xg = yg <;> simp [h1, h2, h3, h4, h5]

/-- min of a number and another one, as an operation of the walk. -/
theorem wpList_minK {P : Program} (w : World) {ops : Array Oper} {rest : List Oper} {o : Oper} {a : Act} {Q : Exit → Act → World → Prop} (hgd : o.guard = none) (d s : Operand) (t t' : TypeId)
    (ho : o.op = .call { callee := .builtin .min, args := #[d, s], argTypes := #[t, t'] }) (x y z : Int) (hd : a.eval d = .int .i64 x) (hs : a.eval s = .int .i64 y) (hz : (if y < x then y else x) = z)
    (h : wpList P ops Q rest (a.put o.dst (.int .i64 z)) w) : wpList P ops Q (o :: rest) a w :=
  wpList_plain hgd fun _ hK => by
    have hr : (Builtin.min_ #[t, t'] o.type #[.int .i64 x, .int .i64 y]).run P w = .ok (.int .i64 z) w := by
      simp [Builtin.min_, Builtin.min2, hz]
    unfold Oper.wp execOp
    simp only [ho, resolve, invoke, builtin, Sem.run_bind, Sem.run_pure, Result.andThen_ok, List.map_toArray, List.map_cons, List.map_nil, hd, hs, hr]
    exact hK _ _ h

/-- The notes and their entries in memory, beside what lay there. -/
structure NW (w0 w : World) (gl ol ga oa : Nat) (l A : List Plain.En) : Prop where
  cl : CellsN w gl ol l
  ca : CellsN w ga oa A
  ll : gl < w.heap.size
  la : ga < w.heap.size
  bel : Below w0.heap.size w0 w
theorem NW.grow {w0 w w' : World} {gl ol ga oa : Nat} {l A : List Plain.En} (h : NW w0 w gl ol ga oa l A) (g : Below w.heap.size w w') : NW w0 w' gl ol ga oa l A :=
  ⟨h.cl.below g h.ll, h.ca.below g h.la, Nat.lt_of_lt_of_le h.ll g.size, Nat.lt_of_lt_of_le h.la g.size, h.bel.trans (g.mono h.bel.size)⟩
end Go.Proofs.Ythdhcnjebigdfaf
