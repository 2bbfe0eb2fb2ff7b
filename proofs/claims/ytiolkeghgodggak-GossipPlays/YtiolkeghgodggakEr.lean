/-
  Rows of entries: equality, what a store makes of a row; a contract of slices.Clone.
-/
import Derived.Test.YtiolkeghgodggakNw
import Derived.Test.YtiolkeghgodggakCk
import Derived.Laws.StructEq
import Derived.OwnWalk
namespace Go.Proofs.Ytiolkeghgodggak
open Go.RowKit

theorem Try.infoEntry : (Try.prog.info? 46).map (fun i => (i.zero, i.size, i.bytes)) = some (some (.agg #[.int .i64 0, .int .i64 0, .int .i64 0, .int .i64 0, .bool false]), 5, 40) := by kernel_rfl
theorem Try.sizeEntry : (Try.prog.info? 46).map (·.size) = some 5 := by kernel_rfl
theorem Try.guardEntry : Try.prog.eqGuardType Try.prog.depth 46 = false := by kernel_rfl

theorem neqE (x y : Plain.En) (w : World) : (binOp .neq 46 (aggE x) (aggE y)).run Try.prog w = .ok (.bool (x != y)) w := by
  have u3 := Try.underlying3
  have u4 := Try.underlying4
  have a3 := Try.isAgg3
  have z3 := Try.sizeOf3
  have a4 := Try.isAgg4
  have z4 := Try.sizeOf4
  have hS : Try.prog.underlying 46 = some (.struct (Try.prog.fieldsOf 46)) := by kernel_rfl
  have hp : Try.prog.stoodInHeld 46 = false := by kernel_rfl
  obtain ⟨xk, xv, xt, xo, xg⟩ := x
  obtain ⟨yk, yv, yt, yo, yg⟩ := y
  rw [run_neq_struct, show (10000 : Nat) = 9999 + 1 from rfl, run_equalIn_agg w 9999 46 _ _ hS hp]
  simp only [Program.fieldsOf, Try.underlying46]
  go_simp
  by_cases h1 : xk = yk <;> by_cases h2 : xv = yv <;> by_cases h3 : xt = yt <;> by_cases h4 : xo = yo <;> by_cases h5 : xg = yg <;> simp [h1, h2, h3, h4, h5, bne]

/-- An entry is laid over another one, cell by cell. -/
def setE (w : World) (g o : Nat) (y : Plain.En) : World :=
  ((((w.setCell ⟨g, o, none⟩ (.int .i64 y.key)).setCell ⟨g, o + 1, none⟩ (.int .i64 y.value)).setCell ⟨g, o + 2, none⟩ (.int .i64 y.time)).setCell ⟨g, o + 3, none⟩ (.int .i64 y.who)).setCell ⟨g, o + 4, none⟩ (.bool y.gone)

theorem setCell_row {w : World} {g i : Nat} {cur : Array Value} {t : TypeId} {v : Value} (hg : w.heap[g]? = some (.cells cur t (0, 0))) : (w.setCell ⟨g, i, none⟩ v).heap[g]? = some (.cells (cur.setIfInBounds i v) t (0, 0)) := by
  simp [World.setCell, Array.getElem?_modify, hg]
theorem list_set5' (pre post : List Value) (x0 x1 x2 x3 x4 a b c d e : Value) :
    (((((pre ++ x0 :: x1 :: x2 :: x3 :: x4 :: post).set pre.length a).set (pre.length + 1) b).set (pre.length + 2) c).set (pre.length + 3) d).set (pre.length + 4) e = pre ++ [a, b, c, d, e] ++ post := by
  rw [List.set_append_right _ _ (by omega), List.set_append_right _ _ (by omega), List.set_append_right _ _ (by omega), List.set_append_right _ _ (by omega), List.set_append_right _ _ (by omega)]
  simp
theorem list_set5 (l : List Value) (o : Nat) (a b c d e : Value) (h : o + 5 ≤ l.length) :
    ((((l.set o a).set (o + 1) b).set (o + 2) c).set (o + 3) d).set (o + 4) e = l.take o ++ [a, b, c, d, e] ++ l.drop (o + 5) := by
  have hl : (l.take o).length = o := by rw [List.length_take]; omega
  have hd : (l.drop o).length = l.length - o := List.length_drop
  have e1 : l = l.take o ++ l.drop o := (List.take_append_drop o l).symm
  have e2 : l.drop (o + 5) = (l.drop o).drop 5 := by rw [List.drop_drop]
  rw [e2]
  generalize l.drop o = r at hd e1
  match r, hd with
  | [], hd => simp at hd; omega
  | [_], hd => simp at hd; omega
  | [_, _], hd => simp at hd; omega
  | [_, _, _], hd => simp at hd; omega
  | [_, _, _, _], hd => simp at hd; omega
  | x0 :: x1 :: x2 :: x3 :: x4 :: post, _ =>
    have := list_set5' (l.take o) post x0 x1 x2 x3 x4 a b c d e
    rw [hl, ← e1] at this
    exact this
/-- What stands in the first n places when a piece is laid over. -/
theorem take_splice (cur : List Value) (o n : Nat) (cs : List Value) (h : o + cs.length ≤ n) (hn : n ≤ cur.length) :
    (cur.take o ++ cs ++ cur.drop (o + cs.length)).take n = (cur.take n).take o ++ cs ++ (cur.take n).drop (o + cs.length) := by
  have h1 : (cur.take o).length = o := by rw [List.length_take]; omega
  rw [List.take_take, Nat.min_eq_left (by omega), List.drop_take, List.take_append, List.take_append, List.length_append, h1]
  rw [List.take_of_length_le (l := cur.take o) (by omega), List.take_of_length_le (l := cs) (by omega)]
theorem evals_set (l : List Plain.En) (i : Nat) (h : i < l.length) (y : Plain.En) : (evals l).take (i * 5) ++ encE y ++ (evals l).drop (i * 5 + 5) = evals (l.set i y) := by
  have e : l.set i y = l.take i ++ y :: l.drop (i + 1) := by rw [List.set_eq_take_append_cons_drop, if_pos h]
  rw [(evals_split l i (by omega)).1, show i * 5 + 5 = (i + 1) * 5 by omega, (evals_split l (i + 1) (by omega)).2, e, evals_app, evals_cons, List.append_assoc]
/-- The row's cells when an entry is laid over. -/
def over5 (cur : Array Value) (o : Nat) (y : Plain.En) : Array Value :=
  ((((cur.setIfInBounds o (.int .i64 y.key)).setIfInBounds (o + 1) (.int .i64 y.value)).setIfInBounds (o + 2) (.int .i64 y.time)).setIfInBounds (o + 3) (.int .i64 y.who)).setIfInBounds (o + 4) (.bool y.gone)
theorem setE_row {w : World} {g o : Nat} {cur : Array Value} {t : TypeId} (hg : w.heap[g]? = some (.cells cur t (0, 0))) (y : Plain.En) : (setE w g o y).heap[g]? = some (.cells (over5 cur o y) t (0, 0)) :=
  setCell_row (setCell_row (setCell_row (setCell_row (setCell_row hg))))
theorem over5_size (cur : Array Value) (o : Nat) (y : Plain.En) : (over5 cur o y).size = cur.size := by simp [over5]
theorem over5_list (cur : Array Value) (o : Nat) (y : Plain.En) (h : o + 5 ≤ cur.size) : (over5 cur o y).toList = cur.toList.take o ++ encE y ++ cur.toList.drop (o + 5) := by
  unfold over5
  simp only [Array.toList_setIfInBounds]
  exact list_set5 _ _ _ _ _ _ _ (by simpa using h)
theorem over5_take (cur : Array Value) (l : List Plain.En) (i : Nat) (y : Plain.En) (hi : i < l.length) (hs : l.length * 5 ≤ cur.size) (ht : cur.toList.take (l.length * 5) = evals l) : (over5 cur (i * 5) y).toList.take (l.length * 5) = evals (l.set i y) := by
  rw [over5_list cur (i * 5) y (by omega)]
  have e := take_splice cur.toList (i * 5) (l.length * 5) (encE y) (by rw [encE_len]; omega) (by rw [Array.length_toList]; exact hs)
  rw [ht, encE_len, evals_set l i hi] at e
  exact e
theorem OwnN.set {w : World} {B T g n c : Nat} {l : List Plain.En} (h : OwnN w B T (.slice (some ⟨g, 0, none⟩) n c) l) (i : Nat) (hi : i < l.length) (y : Plain.En) : OwnN (setE w g (i * 5) y) B T (.slice (some ⟨g, 0, none⟩) n c) (l.set i y) := by
  obtain ⟨g', cap, cur, e, hB, hb, hc, hm, hs, ht⟩ := h.row (by omega)
  simp only [Value.slice.injEq, Option.some.injEq, Addr.mk.injEq, and_true] at e
  obtain ⟨rfl, rfl, rfl⟩ := e
  have hlen : (l.set i y).length = l.length := List.length_set
  have key := OwnN.mk (w := setE w g (i * 5) y) (l := l.set i y) (T := T) (cap := c) hB (setE_row hb y) (by rw [hlen]; exact hc) hm (by rw [over5_size]; exact hs) (by rw [hlen]; exact over5_take cur l i y hi (by omega) ht)
  rw [hlen] at key
  exact key
theorem below_setE {B g o : Nat} {w0 w : World} (h : Below B w0 w) (hg : B ≤ g) (y : Plain.En) : Below B w0 (setE w g o y) :=
  ((((h.setCell (p := ⟨g, o, none⟩) hg _).setCell (p := ⟨g, o + 1, none⟩) hg _).setCell (p := ⟨g, o + 2, none⟩) hg _).setCell (p := ⟨g, o + 3, none⟩) hg _).setCell (p := ⟨g, o + 4, none⟩) hg _
theorem OwnN.frozen {w : World} {B T g n c : Nat} {l : List Plain.En} (h : OwnN w B T (.slice (some ⟨g, 0, none⟩) n c) l) (hl : 0 < l.length) (o : Nat) : w.frozen? ⟨g, o, none⟩ = false := by
  obtain ⟨g', cap, cur, e, hB, hb, _⟩ := h.row hl
  injection e with e1 e2 e3
  injection e1 with e1
  injection e1 with e1 _ _
  subst e1
  simp [World.frozen?, hb]
theorem OwnN.at {w : World} {B T : Nat} {v : Value} {l : List Plain.En} (h : OwnN w B T v l) (hl : 0 < l.length) : ∃ g c, v = .slice (some ⟨g, 0, none⟩) l.length c ∧ B ≤ g ∧ g < w.heap.size ∧ l.length ≤ c ∧ c ≤ 9223372036854775807 := by
  obtain ⟨g, c, cur, e, hB, hb, hc, hm, _⟩ := h.row hl
  exact ⟨g, c, e, hB, (Array.getElem?_eq_some_iff.1 hb).1, hc, hm⟩
theorem OwnN.form {w : World} {B T : Nat} {v : Value} {l : List Plain.En} (h : OwnN w B T v l) : ∃ p c, v = .slice p l.length c := by
  rcases h.2 with ⟨rfl, h0⟩ | ⟨g, cap, _, rfl, _⟩
  · exact ⟨_, _, by rw [h0]⟩
  · exact ⟨_, _, rfl⟩

set_option maxHeartbeats 1000000 in
set_option maxRecDepth 100000 in
theorem clone_some (a : Addr) (n c : Nat) (l : List Plain.En) (hn : l.length = n) (h8 : n ≤ 1000) (w : World) (hlt : 0 < n → a.block < w.heap.size) (hc : ∀ j u, (evals l)[j]? = some u → w.cell? (a.add j) = some u) :
    Calls Try.prog 52 #[.slice (some a) n c] w fun e w' => ∃ v', e = .returned v' ∧ OwnN w' w.heap.size 46 v' l ∧ Below w.heap.size w w' := by
  obtain ⟨i0, hi, hz0, hz1, hz2⟩ := info_parts Try.infoEntry
  have HC := hid hc
  have HN := hid hn
  have HL := hid hlt
  clear hc hn hlt
  have he : ∀ w : World, (binOp .eql 39 (.slice (some a) n c) (.slice none 0 0)).run Try.prog w = .ok (.bool false) w := fun _ => rfl
  have hown : (w.alloc (.cells #[] 46)).ownsRow w.heap.size 46 5 (.slice (some ⟨w.heap.size, 0, none⟩) 0 0) 0 [] :=
    ⟨rfl, .inr ⟨w.heap.size, 0, #[], rfl, Nat.le_refl _, Deep.blk_alloc_new _ _, Nat.le_refl _, by unfold maxLen; omega, rfl, rfl⟩⟩
  go_enter Try.func52, Try.ntmps52
  go_wp2_with (first
    | (at_builtin; refine wpList_append_own _ rfl _ _ 39 rfl w.heap.size 46 i0 _ 5 40 Try.underlying39 hi hz0 hz1 hz2 rfl (by decide) _ _ _ rfl hown a n c (evals l) rfl ?c0 ?c1 ?c2 ?c3 ?c4 ?c5 ?_)
    | go_in)
  case c0 => rw [evals_len, HN.out]
  case c1 =>
    intro j u hj
    have h1 := HC.out j u hj
    have hjl := (List.getElem?_eq_some_iff.1 hj).1
    rw [evals_len, HN.out] at hjl
    have h2 : (a.add j).block < w.heap.size := by
      have := HL.out (by omega)
      by_cases h : j = 0
      · subst h; simpa [Addr.add] using this
      · simpa [Addr.add, h] using this
    exact (((Below.refl w.heap.size w).alloc (Nat.le_refl _) (.cells #[] 46)).cell h2).trans h1
  case c2 => exact evals_one l
  case c3 => unfold maxLen; omega
  case c4 => omega
  case c5 => simp
  intro v' w1 hown' hgrow _
  have R := hid (show OwnN w1 w.heap.size 46 v' l by
    have e := HN.out
    unfold OwnN
    rw [e]
    simpa using hown')
  have RB := hid (show Below w.heap.size w w1 from ((Below.refl w.heap.size w).alloc (Nat.le_refl _) (.cells #[] 46)).grown hgrow (by simp) (fun j hj => by simp [Value.ownBlock] at hj; omega))
  clear hown' hgrow he hown
  go_wp2
  go_ret
  exact ⟨v', rfl, R.out, RB.out⟩

set_option maxRecDepth 100000 in
set_option maxHeartbeats 1000000 in
theorem clone_none (n c : Nat) (w : World) : Calls Try.prog 52 #[.slice none n c] w fun e w' => e = .returned (.slice none 0 0) ∧ w' = w := by
  have he : ∀ w : World, (binOp .eql 39 (.slice none n c) (.slice none 0 0)).run Try.prog w = .ok (.bool true) w := fun _ => rfl
  go_enter Try.func52, Try.ntmps52
  go_wp2
  go_ret
  exact ⟨rfl, rfl⟩

theorem clone_any (v : Value) (l : List Plain.En) (h8 : l.length ≤ 1000) (w : World) (hs : SegN w v l) (hy : Lies w.heap.size v) :
    Calls Try.prog 52 #[v] w fun e w' => ∃ v', e = .returned v' ∧ OwnN w' w.heap.size 46 v' l ∧ Below w.heap.size w w' := by
  rcases hs with ⟨rfl, q, c, rfl⟩ | ⟨b, off, c, rfl, _, hc⟩
  · cases q with
    | none => exact (clone_none 0 c w).mono fun e w' ⟨h1, h2⟩ => ⟨_, h1, OwnN.nil _ _ _, by rw [h2]; exact Below.refl _ _⟩
    | some a => exact clone_some a 0 c [] rfl (by omega) w (fun h => by omega) (fun j u hj => by simp [evals] at hj)
  · exact clone_some ⟨b, off, none⟩ l.length c l rfl h8 w (fun h => hy ⟨b, off, none⟩ _ _ rfl h) (fun j u hj => by rw [addr_add]; exact hc.vals j u hj)
end Go.Proofs.Ytiolkeghgodggak
