/-
  What the texts on gossip lean on: rows apart, append of one number, steps whose runs are known.
-/
import Derived.Test.YtiolkeghgodggakGx
import Derived.Test.YtiolkeghgodggakMg
import Derived.Deep.LoopGhost
import Derived.Laws.OwnMore
import Derived.OneCell
import Derived.Shelf.Abstract
import Derived.Maps.AppendAt
import Derived.Deep.RegionLaw
import Derived.Shelf.SlSortCmp.QuietGrown
namespace Go.Proofs.Ytiolkeghgodggak
open Go.RowKit Go.Shelf Go.Sort

theorem Try.infoInt : (Try.prog.info? 3).map (fun i => (i.zero, i.size, i.bytes)) = some (some (.int .i64 0), 1, 8) := by kernel_rfl
def ivals (l : List Int) : List Value := l.map (Value.int .i64)
theorem ivals_snoc (l : List Int) (x : Int) : ivals (l ++ [x]) = ivals l ++ [.int .i64 x] := by simp [ivals]
theorem ivals_at {l : List Int} {j : Nat} (h : j < l.length) : (ivals l)[j]? = some (.int .i64 (l.getD j 0)) := by
  simp [ivals, h]
theorem ivals_set (l : List Int) (i : Nat) (x : Int) : (ivals l).set i (.int .i64 x) = ivals (l.set i x) := by simp [ivals]
theorem ret_int {k : IntKind} {x y : Int} (h : x = y) : Ending.returned (.int k x) = .returned (.int k y) := by rw [h]
theorem owns_grow {w w' : World} {B e s n : Nat} {v : Value} {xs : List Value} (h : w.ownsRow B e s v n xs) (g : Below w.heap.size w w') : w'.ownsRow B e s v n xs :=
  h.kept (row := none) ⟨g.os, g.tape, g.output, g.size, fun k hk _ => g.block k hk⟩ (by cases hv : v.ownBlock <;> simp)
theorem row_owns_ne {w : World} {b t n B e s m : Nat} {f : Nat → Value} {v : Value} {xs : List Value} (h : w.rowIs b t n f) (o : w.ownsRow B e s v m xs) (hne : t ≠ e) : v.ownBlock ≠ some b := by
  intro e1
  obtain ⟨c, hc, _⟩ := h
  rcases o.2 with ⟨rfl, _⟩ | ⟨g, cap, cur, rfl, _, hg, _⟩
  · simp [Value.ownBlock] at e1
  · simp only [Value.ownBlock, Option.some.injEq] at e1
    subst e1
    rw [hc] at hg
    simp at hg
    exact hne hg.2
theorem drewN_add (w : World) (p q : Nat) : (w.drewN p).drewN q = w.drewN (p + q) := by simp
theorem owns_block {w w' : World} {B e s n : Nat} {v : Value} {xs : List Value} (h : w.ownsRow B e s v n xs) (hb : ∀ b, v.ownBlock = some b → w'.heap[b]? = w.heap[b]?) : w'.ownsRow B e s v n xs := by
  rcases h.2 with ⟨rfl, h0⟩ | ⟨g, cap, cur, rfl, hg, hblk, rest⟩
  · exact ⟨h.1, .inl ⟨rfl, h0⟩⟩
  · exact ⟨h.1, .inr ⟨g, cap, cur, rfl, hg, (hb g rfl).trans hblk, rest⟩⟩
theorem owns_apart {w : World} {B1 B2 e1 e2 s1 s2 n1 n2 b : Nat} {v1 v2 : Value} {x1 x2 : List Value} (h1 : w.ownsRow B1 e1 s1 v1 n1 x1) (h2 : w.ownsRow B2 e2 s2 v2 n2 x2) (hne : e1 ≠ e2) (hb : v1.ownBlock = some b) : v2.ownBlock ≠ some b := by
  intro e
  rcases h1.2 with ⟨rfl, _⟩ | ⟨g, cap, cur, rfl, _, hg, _⟩
  · simp [Value.ownBlock] at hb
  · rcases h2.2 with ⟨rfl, _⟩ | ⟨g', cap', cur', rfl, _, hg', _⟩
    · simp [Value.ownBlock] at e
    · simp only [Value.ownBlock, Option.some.injEq] at hb e
      subst hb
      subst e
      rw [hg] at hg'
      simp at hg'
      exact hne hg'.2
/-- append whose run is known, at a step of a region that draws. -/
theorem step_appG {P : Program} {ops : Array Oper} {o : Oper} {a : Act} {w : World} {K : Act → World → Prop} {Q : Exit → Act → World → Prop} {E : Prop} (s x : Operand) (t : TypeId)
    (ho : o.op = .call { callee := .builtin .append, args := #[s, x], argTypes := #[t, t] }) (ty : TypeId) (hty : o.type = ty) (v1 v2 : Value) (hs : a.eval s = v1) (hx : a.eval x = v2) {v' : Value} {w' : World}
    (hr : (Builtin.append_ #[t, t] ty #[v1, v2]).run P w = .ok v' w') (hw : Region.wanted o (yielded ops a.tmps) = true) (h : K (a.put o.dst v') w') : if Region.wanted o (yielded ops a.tmps) = true then o.wp P a w K Q else E := by
  rw [if_pos hw]
  unfold Oper.wp execOp
  simp only [ho, resolve, invoke, builtin, Sem.run_bind, Sem.run_pure, Result.andThen_ok, List.map_toArray, List.map_cons, List.map_nil, hs, hx, hty, hr]
  exact h

/-- append of one number onto a row of numbers of its own. -/
theorem app_one {W : World} {B n : Nat} {v : Value} {l : List Int} (x : Int) (hn : l.length = n) (hown : W.ownsRow B 3 1 v n (ivals l)) (hb : n ≤ 1000) (hB : B ≤ W.heap.size) :
    ∃ p c U, (Builtin.append_ #[22, 22] 22 #[v, .slice (some ⟨W.heap.size, 0, none⟩) 1 1]).run Try.prog (W.alloc (.cells #[.int .i64 x] 3)).drew = .ok (.slice p (n + 1) c) U ∧
      U.ownsRow B 3 1 (.slice p (n + 1) c) (n + 1) (ivals (l ++ [x])) ∧ (W.alloc (.cells #[.int .i64 x] 3)).drew.grownBy U v.ownBlock ∧
      ((Value.slice p (n + 1) c).ownBlock = v.ownBlock ∨ (Value.slice p (n + 1) c).ownBlock = some (W.heap.size + 1)) := by
  obtain ⟨j0, ji, jz0, jz1, jz2⟩ := info_parts Try.infoInt
  have ho : (W.alloc (.cells #[.int .i64 x] 3)).drew.ownsRow B 3 1 v n (ivals l) := owns_grow hown (((Below.refl _ _).alloc (Nat.le_refl _) _).drew)
  obtain ⟨v', U, h1, h2, h3, _, h5⟩ := run_append_own_at (P := Try.prog) (W.alloc (.cells #[.int .i64 x] 3)).drew B 22 22 3 j0 (.int .i64 0) 1 8 Try.underlying22 ji jz0 jz1 jz2 rfl (by decide) v n _ ho ⟨W.heap.size, 0, none⟩ 1 1 [.int .i64 x]
    rfl (fun j u hu => by
      match j, hu with
      | 0, hu =>
        simp at hu; subst hu
        show (W.alloc _).cell? _ = _
        rw [show (⟨W.heap.size, 0, none⟩ : Addr).add 0 = ⟨W.heap.size, 0, none⟩ by simp [Addr.add], World.cell?_alloc_at _ _ _ _ rfl]; rfl) (fun u hu => by simp at hu; subst hu; rfl) (by unfold maxLen; omega) (by omega) (by show B ≤ (W.alloc _).heap.size; simp; omega)
  rw [← ivals_snoc] at h2
  have hsz : (W.alloc (.cells #[.int .i64 x] 3)).drew.heap.size = W.heap.size + 1 := by show (W.alloc _).heap.size = _; simp
  rw [hsz] at h5
  rcases h2.2 with ⟨_, h0⟩ | ⟨g, cap, cur, rfl, _⟩
  · omega
  · exact ⟨_, _, U, h1, h2, h3, h5⟩
theorem grow_bx {W1 U : World} {B e s n : Nat} {v : Value} {xs : List Value} {b t m : Nat} {f : Nat → Value} (h : W1.rowIs b t m f) (ho : W1.ownsRow B e s v n xs) (hne : t ≠ e) (g : W1.grownBy U v.ownBlock) : U.rowIs b t m f :=
  h.of_block (g.block _ h.lt (fun x => row_owns_ne h ho hne x.symm))
/-- Blocks of which F does not hold are as they were. -/
structure Un (F : Nat → Prop) (w w' : World) : Prop where
  os : w'.os = w.os
  tape : w'.tape = w.tape
  output : w'.output = w.output
  size : w.heap.size ≤ w'.heap.size
  block : ∀ k, k < w.heap.size → ¬ F k → w'.heap[k]? = w.heap[k]?
namespace Un
variable {F : Nat → Prop} {w w' w'' : World}
theorem of_below (h : Below w.heap.size w w') : Un F w w' := ⟨h.os, h.tape, h.output, h.size, fun k hk _ => h.block k hk⟩
theorem refl (F : Nat → Prop) (w : World) : Un F w w := of_below (Below.refl _ _)
theorem trans (h : Un F w w') (g : Un F w' w'') : Un F w w'' :=
  ⟨g.os.trans h.os, g.tape.trans h.tape, g.output.trans h.output, Nat.le_trans h.size g.size, fun k hk hp => (g.block k (Nat.lt_of_lt_of_le hk h.size) hp).trans (h.block k hk hp)⟩
/-- What came later may turn besides. -/
theorem thenU {F' : Nat → Prop} (h : Un F w w') (g : Un F' w' w'') (hf : ∀ k, k < w.heap.size → F' k → F k) : Un F w w'' :=
  ⟨g.os.trans h.os, g.tape.trans h.tape, g.output.trans h.output, Nat.le_trans h.size g.size, fun k hk hp => (g.block k (Nat.lt_of_lt_of_le hk h.size) (fun x => hp (hf k hk x))).trans (h.block k hk hp)⟩
theorem set {b : Nat} (h : F b) (i : Nat) (v : Value) : Un F w (w.setCell ⟨b, i, none⟩ v) :=
  ⟨rfl, rfl, rfl, by simp, fun k _ hp => Below.heap_setCell w ⟨b, i, none⟩ v k (fun e => hp (by have e' : k = b := e; rw [e']; exact h))⟩
theorem below {B : Nat} (h : Un F w w') (hB : B ≤ w.heap.size) (hF : ∀ k, F k → B ≤ k) : Below B w w' :=
  ⟨h.os, h.tape, h.output, h.size, fun k hk => h.block k (by omega) (fun x => by have := hF k x; omega)⟩
theorem rowIs {b t n : Nat} {f : Nat → Value} (h : Un F w w') (r : w.rowIs b t n f) (hb : ¬ F b) : w'.rowIs b t n f := r.of_block (h.block b r.lt hb)
end Un
theorem getD_mem {α : Type} (l : List α) (d : α) {k : Nat} (h : k < l.length) : l.getD k d ∈ l := by
  rw [List.getD_eq_getElem?_getD, List.getElem?_eq_getElem h]; exact List.getElem_mem _
theorem getD_map {α β : Type} (f : α → β) (l : List α) (d : α) (e : β) {k : Nat} (h : k < l.length) : (l.map f).getD k e = f (l.getD k d) := by
  rw [List.getD_eq_getElem?_getD, List.getElem?_map, List.getD_eq_getElem?_getD, List.getElem?_eq_getElem h]; rfl

end Go.Proofs.Ytiolkeghgodggak
