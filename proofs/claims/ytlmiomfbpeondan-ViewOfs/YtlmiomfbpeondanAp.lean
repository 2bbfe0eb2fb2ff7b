/-
  append of what one row holds onto another one.
-/
import Derived.Test.YtlmiomfbpeondanSg
import Derived.Laws.AppendOwnNone
namespace Go.Proofs.Ytlmiomfbpeondan
open Go.RowKit

theorem run_app_owned {P : Program} {w : World} {B B2 n m e size bytes : Nat} {t ty : TypeId} {i : TypeInfo} {z v x : Value} {xs ys : List Value} (ht : P.underlying t = some (.slice e)) (hi : P.info? e = some i) (hz : i.zero = some z)
    (hsize : i.size = size) (hby : i.bytes = bytes) (hzs : z.cells.size = size) (hsz : 0 < size) (hown : w.ownsRow B e size v n xs) (hsrc : w.ownsRow B2 e size x m ys) (h1 : ∀ u ∈ ys, u.oneCell' = true) (h63 : n + m ≤ maxLen) (hbytes : (n + m) * bytes ≤ 140737488355328) (hB : B ≤ w.heap.size) :
    ∃ v' w', (Builtin.append_ #[t, t] ty #[v, x]).run P w = .ok v' w' ∧ w'.ownsRow B e size v' (n + m) (xs ++ ys) ∧ w.grownBy w' v.ownBlock := by
  rcases hsrc.2 with ⟨rfl, h0⟩ | ⟨g, cap, cur, rfl, _, _, _, _, _, _⟩
  · subst h0
    have hy : ys = [] := List.length_eq_zero_iff.1 (by rw [hsrc.1]; simp)
    subst hy
    refine ⟨v, w, run_append_owned_none (P := P) (w := w) B t ty e i size ht hi v n _ hown, by simpa using hown, ⟨rfl, rfl, rfl, Nat.le_refl _, fun _ _ _ => rfl⟩⟩
  · obtain ⟨v', w', a1, a2, a3, _⟩ := run_append_own (P := P) w B t ty e i z size bytes ht hi hz hsize hby hzs hsz v n _ hown ⟨g, 0, none⟩ m cap ys hsrc.1 (hsrc.cells rfl) h1 h63 hbytes hB
    exact ⟨v', w', a1, a2, a3⟩

/-- append whose run is known, at an operation that is wanted. -/
theorem wpList_app {P : Program} {ops : Array Oper} {Q : Exit → Act → World → Prop} {a : Act} {w w' : World} {rest : List Oper} {o : Oper} {v1 v2 v' : Value} {ty : Nat} (s x : Operand) (t : TypeId)
    (hrun : (Builtin.append_ #[t, t] ty #[v1, v2]).run P w = .ok v' w') (ho : o.op = .call { callee := .builtin .append, args := #[s, x], argTypes := #[t, t] }) (hty : o.type = ty)
    (hs : a.eval s = v1) (hx : a.eval x = v2) (hw : Region.wanted o (yielded ops a.tmps) = true) (h : wpList P ops Q rest (a.put o.dst v') w') : wpList P ops Q (o :: rest) a w :=
  BigFrame.wpList_want hw fun K hK => by
    unfold Oper.wp execOp
    simp only [ho, resolve, invoke, builtin, Sem.run_bind, Sem.run_pure, Result.andThen_ok, List.map_toArray, List.map_cons, List.map_nil, hs, hx, hty, hrun]
    exact hK _ _ h
end Go.Proofs.Ytlmiomfbpeondan
