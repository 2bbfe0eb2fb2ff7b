/-
  A contract of slices.Insert at entries in a row of the call's own: one entry, at a place.
-/
import Derived.Test.YtiolkeghgodggakEr
import Derived.Laws.Externs
import Derived.Deep.RegionLaw
import Derived.Shelf.RegionOpenPlain
namespace Go.Proofs.Ytiolkeghgodggak
open Go.RowKit

/-- An operation whose run is known: what follows goes on with its answer, in its world. -/
theorem wp_known {P : Program} {w w' : World} {o : Oper} {a : Act} {K : Act → World → Prop} {Q : Exit → Act → World → Prop} {v : Value} (hr : (execOp a.eval o).run P w = .ok (.value v) w') (h : K (a.put o.dst v) w') : o.wp P a w K Q := by
  unfold Oper.wp
  rw [hr]
  exact h
/-- The run of a copy, as an operation's. -/
theorem exec_copy {P : Program} {w w' : World} {o : Oper} {e : Operand → Value} {d s : Operand} {t t' : TypeId} {x y v : Value} (ho : o.op = .call { callee := .builtin .copy, args := #[d, s], argTypes := #[t, t'] }) (hd : e d = x) (hs : e s = y)
    (hr : (Builtin.copy_ #[t, t'] o.type #[x, y]).run P w = .ok v w') : (execOp e o).run P w = .ok (.value v) w' := by
  simp [execOp, ho, resolve, invoke, builtin, hd, hs, hr]
theorem wpList_copyK {P : Program} (w : World) {ops : Array Oper} {rest : List Oper} {o : Oper} {a : Act} {Q : Exit → Act → World → Prop} (hgd : o.guard = none) (d s : Operand) (t t' : TypeId)
    (ho : o.op = .call { callee := .builtin .copy, args := #[d, s], argTypes := #[t, t'] }) (x y : Value) (hd : a.eval d = x) (hs : a.eval s = y) {v : Value} {w' : World}
    (hr : (Builtin.copy_ #[t, t'] o.type #[x, y]).run P w = .ok v w') (h : wpList P ops Q rest (a.put o.dst v) w') : wpList P ops Q (o :: rest) a w :=
  wpList_plain hgd fun _ hK => wp_known (exec_copy ho hd hs hr) (hK _ _ h)
/-- The same, as a step of a region that draws. -/
theorem step_copyK {P : Program} {ops : Array Oper} {o : Oper} {a : Act} {w : World} {K : Act → World → Prop} {Q : Exit → Act → World → Prop} {E : Prop} (hgd : o.guard = none) (d s : Operand) (t t' : TypeId)
    (ho : o.op = .call { callee := .builtin .copy, args := #[d, s], argTypes := #[t, t'] }) (x y : Value) (hd : a.eval d = x) (hs : a.eval s = y) {v : Value} {w' : World}
    (hr : (Builtin.copy_ #[t, t'] o.type #[x, y]).run P w = .ok v w') (h : K (a.put o.dst v) w') : if Region.wanted o (yielded ops a.tmps) = true then o.wp P a w K Q else E := by
  rw [if_pos (by simp [Region.wanted, hgd])]
  exact wp_known (exec_copy ho hd hs hr) h

/-- The entry that is put in lies in a block of its own. -/
theorem box_vals {w : World} {vb : Nat} {x : Plain.En} (h : w.heap[vb]? = some (boxE x)) : ∀ j u, (encE x)[j]? = some u → w.cell? ((⟨vb, 0, none⟩ : Addr).add j) = some u := by
  intro j u hj
  rw [add_zero_at]
  simp only [World.cell?, h]
  match j, hj with
  | 0, hj => injection hj with hj; subst hj; rfl
  | 1, hj => injection hj with hj; subst hj; rfl
  | 2, hj => injection hj with hj; subst hj; rfl
  | 3, hj => injection hj with hj; subst hj; rfl
  | 4, hj => injection hj with hj; subst hj; rfl

set_option maxHeartbeats 2000000 in
set_option maxRecDepth 100000 in
theorem insert_end (v : Value) (vb B : Nat) (l : List Plain.En) (x : Plain.En) (w : World) (hl : l.length ≤ 1000) (hB : B ≤ w.heap.size) (h : OwnN w B 46 v l) (hv : w.heap[vb]? = some (boxE x)) :
    Calls Try.prog 61 #[v, .int .i64 (l.length : Nat), .slice (some ⟨vb, 0, none⟩) 1 1] w fun e w' =>
      ∃ v', e = .returned v' ∧ OwnN w' B 46 v' (l ++ [x]) ∧ Below B w w' := by
  obtain ⟨p, c, rfl⟩ := h.form
  obtain ⟨i0, hi, hz0, hz1, hz2⟩ := info_parts Try.infoEntry
  have H := hid (show w.ownsRow B 46 5 (.slice p l.length c) l.length (evals l) from h)
  have HV := hid (box_vals hv)
  have HG := hid (show ∀ j, (Value.slice p l.length c).ownBlock = some j → B ≤ j by
    intro j hj
    rcases h.2 with ⟨e, _⟩ | ⟨g, cap, cur, e, hg, _⟩
    · rw [e] at hj; simp [Value.ownBlock] at hj
    · rw [e] at hj; simp [Value.ownBlock] at hj; omega)
  clear h hv
  generalize hn : l.length = n at hl H HG ⊢
  have HN := hid hn
  clear hn
  have hcn : n = c ∨ ¬ c = n := by omega
  rcases hcn with rfl | hcn
  all_goals
    go_enter Try.func61, Try.ntmps61
    go_wp2_with (first
      | (at_builtin; refine wpList_append_own _ rfl _ _ 39 rfl B 46 i0 _ 5 40 Try.underlying39 hi hz0 hz1 hz2 rfl (by decide) _ n (evals l) rfl ?c0 ⟨vb, 0, none⟩ 1 1 (encE x) rfl rfl ?c1 ?c2 ?c3 ?c4 ?c5 ?_)
      | fail)
    case c0 => exact H.out
    case c1 => exact HV.out
    case c2 => exact encE_one _
    case c3 => unfold maxLen; omega
    case c4 => omega
    case c5 => exact hB
    intro v' w2 hown' hgrow _
    have R := hid (show OwnN w2 B 46 v' (l ++ [x]) by
      unfold OwnN
      rw [evals_app, List.length_append, HN.out]
      have e : evals [x] = encE x := by rw [evals_cons]; simp [evals]
      rw [e]
      exact hown')
    have RB := hid (show Below B w w2 from (Below.refl _ _).grown hgrow hB HG.out)
    clear hown' hgrow
    go_wp2
    go_ret
    exact ⟨v', rfl, R.out, RB.out⟩

/-- What the row holds when the entry is put in. -/
theorem put_row (cur : Array Value) (l : List Plain.En) (x : Plain.En) (i : Nat) (hi : i < l.length) (hs : (l.length + 1) * 5 ≤ cur.size) (ht : cur.toList.take (i * 5) = evals (l.take i)) :
    (((cur.toList.take (i * 5) ++ encE x ++ cur.toList.drop (i * 5 + 5)).take ((i + 1) * 5) ++ evals (l.drop i) ++ (cur.toList.take (i * 5) ++ encE x ++ cur.toList.drop (i * 5 + 5)).drop ((i + 1) * 5 + (l.length - i) * 5)).take ((l.length + 1) * 5)) = evals (l.take i ++ x :: l.drop i) := by
  have h1 : (cur.toList.take (i * 5)).length = i * 5 := by rw [List.length_take, Array.length_toList]; omega
  have h2 : (cur.toList.take (i * 5) ++ encE x).length = (i + 1) * 5 := by rw [List.length_append, h1, encE_len]; omega
  have h3 : (cur.toList.take (i * 5) ++ encE x ++ cur.toList.drop (i * 5 + 5)).take ((i + 1) * 5) = cur.toList.take (i * 5) ++ encE x := by
    rw [List.take_append_of_le_length (by omega), List.take_of_length_le (by omega)]
  have h4 : (evals (l.drop i)).length = (l.length - i) * 5 := by rw [evals_len, List.length_drop]
  rw [h3, List.take_append_of_le_length (by rw [List.length_append, h2, h4]; omega), List.take_of_length_le (by rw [List.length_append, h2, h4]; omega), ht, evals_app, evals_cons, List.append_assoc]
end Go.Proofs.Ytiolkeghgodggak
