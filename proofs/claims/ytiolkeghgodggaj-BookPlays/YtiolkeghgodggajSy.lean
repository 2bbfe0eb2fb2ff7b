/-
  What the texts on brokers lean on (beside shares): rows apart, append of one number, steps whose runs are known.
-/
import Derived.Test.YtiolkeghgodggajGx
import Derived.Test.YtiolkeghgodggajHw
import Derived.Deep.LoopGhost
import Derived.Laws.OwnMore
import Derived.OneCell
import Derived.Shelf.Abstract
import Derived.Maps.AppendAt
import Derived.Deep.RegionLaw
import Derived.Shelf.SlSortCmp.QuietGrown
namespace Go.Proofs.Ytiolkeghgodggaj.Bo
open Go.RowKit Go.Shelf Go.Sort

def ivals (l : List Int) : List Value := l.map (Value.int .i64)
theorem ivals_snoc (l : List Int) (x : Int) : ivals (l ++ [x]) = ivals l ++ [.int .i64 x] := by simp [ivals]
theorem ivals_at {l : List Int} {j : Nat} (h : j < l.length) : (ivals l)[j]? = some (.int .i64 (l.getD j 0)) := by
  simp [ivals, h]
theorem ivals_set (l : List Int) (i : Nat) (x : Int) : (ivals l).set i (.int .i64 x) = ivals (l.set i x) := by simp [ivals]
theorem owns_grow {w w' : World} {B e s n : Nat} {v : Value} {xs : List Value} (h : w.ownsRow B e s v n xs) (g : Below w.heap.size w w') : w'.ownsRow B e s v n xs :=
  h.kept (row := none) ⟨g.os, g.tape, g.output, g.size, fun k hk _ => g.block k hk⟩ (by cases hv : v.ownBlock <;> simp)
theorem row_owns_ne {w : World} {b t n B e s m : Nat} {f : Nat → Value} {v : Value} {xs : List Value} (h : w.rowIs b t n f) (o : w.ownsRow B e s v m xs) (hne : t ≠ e) : v.ownBlock ≠ some b := by
  intro e1
  obtain ⟨c, hc, _⟩ := h
  rcases o.2 with ⟨rfl, _⟩ | ⟨g, cap, cur, rfl, _, hg, _⟩
  · simp [Value.ownBlock] at e1
  · simp only [Value.ownBlock, Option.some.injEq] at e1
    subst e1
    rw [hc] at hg
    simp at hg
    exact hne hg.2
theorem owns_block {w w' : World} {B e s n : Nat} {v : Value} {xs : List Value} (h : w.ownsRow B e s v n xs) (hb : ∀ b, v.ownBlock = some b → w'.heap[b]? = w.heap[b]?) : w'.ownsRow B e s v n xs := by
  rcases h.2 with ⟨rfl, h0⟩ | ⟨g, cap, cur, rfl, hg, hblk, rest⟩
  · exact ⟨h.1, .inl ⟨rfl, h0⟩⟩
  · exact ⟨h.1, .inr ⟨g, cap, cur, rfl, hg, (hb g rfl).trans hblk, rest⟩⟩
theorem owns_apart {w : World} {B1 B2 e1 e2 s1 s2 n1 n2 b : Nat} {v1 v2 : Value} {x1 x2 : List Value} (h1 : w.ownsRow B1 e1 s1 v1 n1 x1) (h2 : w.ownsRow B2 e2 s2 v2 n2 x2) (hne : e1 ≠ e2) (hb : v1.ownBlock = some b) : v2.ownBlock ≠ some b := by
  intro e
  rcases h1.2 with ⟨rfl, _⟩ | ⟨g, cap, cur, rfl, _, hg, _⟩
  · simp [Value.ownBlock] at hb
  · rcases h2.2 with ⟨rfl, _⟩ | ⟨g', cap', cur', rfl, _, hg', _⟩
    · simp [Value.ownBlock] at e
    · simp only [Value.ownBlock, Option.some.injEq] at hb e
      subst hb
      subst e
      rw [hg] at hg'
      simp at hg'
      exact hne hg'.2
/-- append whose run is known, at a step of a region that draws. -/
theorem step_appG {P : Program} {ops : Array Oper} {o : Oper} {a : Act} {w : World} {K : Act → World → Prop} {Q : Exit → Act → World → Prop} {E : Prop} (s x : Operand) (t : TypeId)
    (ho : o.op = .call { callee := .builtin .append, args := #[s, x], argTypes := #[t, t] }) (ty : TypeId) (hty : o.type = ty) (v1 v2 : Value) (hs : a.eval s = v1) (hx : a.eval x = v2) {v' : Value} {w' : World}
    (hr : (Builtin.append_ #[t, t] ty #[v1, v2]).run P w = .ok v' w') (hw : Region.wanted o (yielded ops a.tmps) = true) (h : K (a.put o.dst v') w') : if Region.wanted o (yielded ops a.tmps) = true then o.wp P a w K Q else E := by
  rw [if_pos hw]
  unfold Oper.wp execOp
  simp only [ho, resolve, invoke, builtin, Sem.run_bind, Sem.run_pure, Result.andThen_ok, List.map_toArray, List.map_cons, List.map_nil, hs, hx, hty, hr]
  exact h

/-- append of one number onto a row of numbers of its own. -/
theorem app_one {W : World} {B n : Nat} {v : Value} {l : List Int} (x : Int) (hn : l.length = n) (hown : W.ownsRow B 3 1 v n (ivals l)) (hb : n ≤ 1000) (hB : B ≤ W.heap.size) :
    ∃ p c U, (Builtin.append_ #[29, 29] 29 #[v, .slice (some ⟨W.heap.size, 0, none⟩) 1 1]).run Try.prog (W.alloc (.cells #[.int .i64 x] 3)).drew = .ok (.slice p (n + 1) c) U ∧
      U.ownsRow B 3 1 (.slice p (n + 1) c) (n + 1) (ivals (l ++ [x])) ∧ (W.alloc (.cells #[.int .i64 x] 3)).drew.grownBy U v.ownBlock ∧
      ((Value.slice p (n + 1) c).ownBlock = v.ownBlock ∨ (Value.slice p (n + 1) c).ownBlock = some (W.heap.size + 1)) := by
  obtain ⟨j0, ji, jz0, jz1, jz2⟩ := info_parts Try.infoInt
  have ho : (W.alloc (.cells #[.int .i64 x] 3)).drew.ownsRow B 3 1 v n (ivals l) := owns_grow hown (((Below.refl _ _).alloc (Nat.le_refl _) _).drew)
  obtain ⟨v', U, h1, h2, h3, _, h5⟩ := run_append_own_at (P := Try.prog) (W.alloc (.cells #[.int .i64 x] 3)).drew B 29 29 3 j0 (.int .i64 0) 1 8 Try.underlying29 ji jz0 jz1 jz2 rfl (by decide) v n _ ho ⟨W.heap.size, 0, none⟩ 1 1 [.int .i64 x]
    rfl (fun j u hu => by
      match j, hu with
      | 0, hu =>
        simp at hu; subst hu
        show (W.alloc _).cell? _ = _
        rw [show (⟨W.heap.size, 0, none⟩ : Addr).add 0 = ⟨W.heap.size, 0, none⟩ by simp [Addr.add], World.cell?_alloc_at _ _ _ _ rfl]; rfl) (fun u hu => by simp at hu; subst hu; rfl) (by unfold maxLen; omega) (by omega) (by show B ≤ (W.alloc _).heap.size; simp; omega)
  rw [← ivals_snoc] at h2
  have hsz : (W.alloc (.cells #[.int .i64 x] 3)).drew.heap.size = W.heap.size + 1 := by show (W.alloc _).heap.size = _; simp
  rw [hsz] at h5
  rcases h2.2 with ⟨_, h0⟩ | ⟨g, cap, cur, rfl, _⟩
  · omega
  · exact ⟨_, _, U, h1, h2, h3, h5⟩
theorem grow_bx {W1 U : World} {B e s n : Nat} {v : Value} {xs : List Value} {b t m : Nat} {f : Nat → Value} (h : W1.rowIs b t m f) (ho : W1.ownsRow B e s v n xs) (hne : t ≠ e) (g : W1.grownBy U v.ownBlock) : U.rowIs b t m f :=
  h.of_block (g.block _ h.lt (fun x => row_owns_ne h ho hne x.symm))
theorem below_grow {B : Nat} {w w' : World} (h : Below B w w') (hB : B ≤ w'.heap.size) (n : Nat) (os : Array Obj) : Below B w (grow (w'.drewN n) os) :=
  h.trans ⟨rfl, rfl, rfl, by show w'.heap.size ≤ (w'.heap ++ os).size; simp, fun k hk => by
    show (w'.heap ++ os)[k]? = w'.heap[k]?
    rw [Array.getElem?_append_left (by omega)]⟩
end Go.Proofs.Ytiolkeghgodggaj.Bo
