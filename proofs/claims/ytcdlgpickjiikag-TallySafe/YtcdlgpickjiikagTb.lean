/-
  A table that is appended to, row by row, in a struct's field.
-/
import Derived.Test.YtcdlgpickjiikagTc
import Derived.Deep.RegionLaw
import Derived.Laws.AppendOwn
namespace Go.Proofs.Ytcdlgpickjiikag
open Go.RowKit Go.Sort

/-- append whose run is known, as a step of a region that draws. -/
theorem step_appK {P : Program} {ops : Array Oper} {o : Oper} {a : Act} {w : World} {K : Act → World → Prop} {Q : Exit → Act → World → Prop} {E : Prop} (hgd : o.guard = none) (s x : Operand) (t : TypeId)
    (ho : o.op = .call { callee := .builtin .append, args := #[s, x], argTypes := #[t, t] }) (v1 v2 : Value) (hs : a.eval s = v1) (hx : a.eval x = v2) {v' : Value} {w' : World}
    (hr : (Builtin.append_ #[t, t] o.type #[v1, v2]).run P w = .ok v' w') (h : K (a.put o.dst v') w') : if Region.wanted o (yielded ops a.tmps) = true then o.wp P a w K Q else E := by
  rw [if_pos (by simp [Region.wanted, hgd])]
  unfold Oper.wp execOp
  simp only [ho, resolve, invoke, builtin, Sem.run_bind, Sem.run_pure, Result.andThen_ok, List.map_toArray, List.map_cons, List.map_nil, hs, hx, hr]
  exact h

/-- The table, up to its k-th row: v in the box hb, rb the result's cell. -/
structure BI (w0 w : World) (n k hb rb bu cu : Nat) (v : Value) (G C : Nat → Nat) (L : Nat → List Int) (lu : List Int) : Prop where
  bel : Below w0.heap.size w0 w
  own : w.ownsRow w0.heap.size 23 1 v k ((List.range k).map fun i => .slice (some ⟨G i, 0, none⟩) n (C i))
  box : Res w hb v (.slice (some ⟨bu, 0, none⟩) n cu)
  res : Res w rb (.slice none 0 0) (.slice none 0 0)
  u : RowI w bu lu
  u0 : w0.heap.size ≤ bu
  h0 : w0.heap.size ≤ hb
  r0 : w0.heap.size ≤ rb
  hr : hb ≠ rb
  m : ∀ i, i < k → RowI w (G i) (L i)
  lo : ∀ i, i < k → bu < G i
  up : ∀ i j, i < j → j < k → G i < G j
/-- Blocks of two types are two. -/
theorem ne_types {w : World} {g1 g2 t1 t2 : Nat} {c1 c2 : Array Value} (h1 : w.heap[g1]? = some (.cells c1 t1 (0, 0))) (h2 : w.heap[g2]? = some (.cells c2 t2 (0, 0))) (h : t1 ≠ t2) : g1 ≠ g2 := by
  intro e
  subst e
  rw [h1] at h2
  injection h2 with h2
  injection h2 with _ h3 _
  exact h h3
theorem own_block {w : World} {B e s n : Nat} {v : Value} {xs : List Value} (h : w.ownsRow B e s v n xs) : ∀ j, v.ownBlock = some j → ∃ cur, w.heap[j]? = some (.cells cur e (0, 0)) := by
  intro j hj
  rcases h.2 with ⟨rfl, _⟩ | ⟨g, cap, cur, rfl, _, hb, _⟩
  · simp [Value.ownBlock] at hj
  · simp [Value.ownBlock] at hj
    subst hj
    exact ⟨cur, hb⟩
theorem grown_block {w w' : World} {row : Option Nat} (h : w.grownBy w' row) (k : Nat) (hk : k < w.heap.size) (hne : row ≠ some k) : w'.heap[k]? = w.heap[k]? := h.block k hk (fun e => hne e.symm)

set_option maxHeartbeats 400000 in
theorem BI.step {w0 w w1 : World} {n k hb rb bu cu g c : Nat} {v : Value} {G C : Nat → Nat} {L : Nat → List Int} {lu : List Int} (h : BI w0 w n k hb rb bu cu v G C L lu) (hk : k < 8)
    (g1 : Below w.heap.size w w1) (hg : RowI w1 g (L k)) (hge : w.heap.size ≤ g) :
    ∃ v' w', (∃ p' c', v' = .slice p' (k + 1) c') ∧ (∀ ty, (Builtin.append_ #[22, 22] ty #[v, .slice (some ⟨w1.heap.size, 0, none⟩) 1 1]).run Try.prog (w1.alloc (.cells #[.slice (some ⟨g, 0, none⟩) n c] 23)) = .ok v' w') ∧
      Res w' hb v (.slice (some ⟨bu, 0, none⟩) n cu) ∧
      BI w0 (w'.setCell ⟨hb, 0, none⟩ v') n (k + 1) hb rb bu cu v' (fun j => if j = k then g else G j) (fun j => if j = k then c else C j) L lu := by
  obtain ⟨i0, hi, hz0, hz1, hz2⟩ := info_parts Try.infoSl
  obtain ⟨W, hW⟩ : ∃ W, W = w1.alloc (.cells #[.slice (some ⟨g, 0, none⟩) n c] 23) := ⟨_, rfl⟩
  have g2 : Below w.heap.size w W := by rw [hW]; exact g1.trans ((Below.refl _ _).alloc g1.size _)
  have g3 : Below w1.heap.size w1 W := by rw [hW]; exact (Below.refl _ _).alloc (Nat.le_refl _) _
  have hcell : W.cell? ⟨w1.heap.size, 0, none⟩ = some (.slice (some ⟨g, 0, none⟩) n c) := by rw [hW, World.cell?_alloc_at _ _ _ _ rfl]; rfl
  have own1 : W.ownsRow w0.heap.size 23 1 v k ((List.range k).map fun i => .slice (some ⟨G i, 0, none⟩) n (C i)) := by
    refine ⟨h.own.1, ?_⟩
    rcases h.own.2 with h0 | ⟨b, cap, cur, e, hB, hb, h3⟩
    · exact .inl h0
    · exact .inr ⟨b, cap, cur, e, hB, (g2.block b (Array.getElem?_eq_some_iff.1 hb).1).trans hb, h3⟩
  rw [← hW]
  obtain ⟨v', w', hrun, own2, gr, _⟩ := run_append_own (P := Try.prog) W w0.heap.size 22 0 23 i0 (.slice none 0 0) 1 24 Try.underlying22 hi hz0 hz1 hz2 rfl (by decide) v k _ own1 ⟨w1.heap.size, 0, none⟩ 1 1 [.slice (some ⟨g, 0, none⟩) n c] rfl
    (fun j u hj => by
      match j, hj with
      | 0, hj => injection hj with hj; subst hj; exact hcell) (fun u hu => by simp at hu; subst hu; rfl) (by unfold maxLen; omega) (by omega) (Nat.le_trans h.bel.size g2.size)
  have hrun2 : ∀ ty, (Builtin.append_ #[22, 22] ty #[v, .slice (some ⟨w1.heap.size, 0, none⟩) 1 1]).run Try.prog W = .ok v' w' := fun ty => hrun
  have keep : ∀ j, j < W.heap.size → (∀ cur, W.heap[j]? ≠ some (.cells cur 23 (0, 0))) → w'.heap[j]? = W.heap[j]? := fun j hj hne => grown_block gr j hj (fun e => by
    obtain ⟨cur, hc⟩ := own_block own1 j e
    exact hne cur hc)
  have rowK : ∀ {b : Nat} {l : List Int}, RowI W b l → RowI w' b l := fun {b l} hr => by
    refine hr.of_block (keep b hr.lt fun cur hc => ?_)
    obtain ⟨c2, hb2, _⟩ := hr
    exact ne_types hb2 hc (by decide) rfl
  have resK : ∀ {b : Nat} {x y : Value}, Res W b x y → Res w' b x y := fun {b x y} hr => (keep b hr.lt fun cur hc => ne_types hr hc (by decide) rfl).trans hr
  have bx := resK (h.box.below g2 h.box.lt)
  have rs := resK (h.res.below g2 h.res.lt)
  have ru := rowK (h.u.below g2 h.u.lt)
  have hlt : ∀ i, i < k → G i < w.heap.size := fun i hi => (h.m i hi).lt
  have hbt : ∀ {b : Nat} {l : List Int}, RowI w' b l → b ≠ hb := fun {b l} hr => by
    obtain ⟨c2, hb2, _⟩ := hr
    exact ne_types hb2 bx (by decide)
  have bel' : Below w0.heap.size w0 w' := by
    refine (h.bel.trans (g2.mono h.bel.size)).grown gr (Nat.le_trans h.bel.size g2.size) fun j hj => ?_
    rcases own1.2 with ⟨rfl, _⟩ | ⟨b, cap, cur, rfl, hB, _⟩
    · simp [Value.ownBlock] at hj
    · simp [Value.ownBlock] at hj; omega
  have rg := rowK (hg.below g3 hg.lt)
  have hv' : ∃ p' c', v' = .slice p' (k + 1) c' := by
    rcases own2.2 with ⟨_, h0⟩ | ⟨b, cap, _, e, _⟩
    · omega
    · exact ⟨_, _, e⟩
  refine ⟨v', w', hv', hrun2, bx, bel'.setCell (p := ⟨hb, 0, none⟩) h.h0 _, ?_, ?_, ?_, ru.other (a := ⟨hb, 0, none⟩) (hbt ru) _, h.u0, h.h0, h.r0, h.hr, ?_, ?_, ?_⟩
  · have e : ((List.range (k + 1)).map fun i => Value.slice (some ⟨if i = k then g else G i, 0, none⟩) n (if i = k then c else C i)) = ((List.range k).map fun i => Value.slice (some ⟨G i, 0, none⟩) n (C i)) ++ [.slice (some ⟨g, 0, none⟩) n c] := by
      rw [List.range_succ, List.map_append]
      congr 1
      · apply List.map_congr_left
        intro i hi
        have := List.mem_range.1 hi
        rw [if_neg (by omega), if_neg (by omega)]
      · simp
    rw [e]
    refine ⟨own2.1, ?_⟩
    rcases own2.2 with h0 | ⟨b, cap, cur, e, hB, hb2, h3⟩
    · exact .inl h0
    · exact .inr ⟨b, cap, cur, e, hB, (Below.heap_setCell _ _ _ _ (show b ≠ (⟨hb, 0, none⟩ : Addr).block from ne_types hb2 bx (by decide))).trans hb2, h3⟩
  · have hx : w'.heap[hb]? = _ := bx
    unfold Res
    simp [World.setCell, Array.getElem?_modify, hx]
  · exact rs.other (a := ⟨hb, 0, none⟩) (fun e => h.hr e.symm)
  · intro i hi
    by_cases e : i = k
    · subst e; rw [if_pos rfl]; exact rg.other (a := ⟨hb, 0, none⟩) (hbt rg) _
    · rw [if_neg e]
      have r1 := rowK ((h.m i (by omega)).below g2 (hlt i (by omega)))
      exact r1.other (a := ⟨hb, 0, none⟩) (hbt r1) _
  · intro i hi
    by_cases e : i = k
    · rw [if_pos e]; have := h.u.lt; omega
    · rw [if_neg e]; exact h.lo i (by omega)
  · intro i j hij hj
    rw [if_neg (by omega)]
    by_cases e : j = k
    · rw [if_pos e]; have := hlt i (by omega); omega
    · rw [if_neg e]; exact h.up i j hij (by omega)
/-- The whole table, in rows of its own. -/
theorem BI.whole {w0 w : World} {n hb rb bu cu : Nat} {v : Value} {G C : Nat → Nat} {L : Nat → List Int} {lu : List Int} (h : BI w0 w n n hb rb bu cu v G C L lu) (n1 : 1 ≤ n) (n8 : n ≤ 8) (t : Plain.Ta) (ht : t.moves.length = n) (hr : ∀ i, i < n → Plain.rw t i = L i) (hl : ∀ i, i < n → (L i).length = n) (hu : t.used = lu) (hul : lu.length = n) :
    ∃ b cb, v = .slice (some ⟨b, 0, none⟩) n cb ∧ OwnT w w0.heap.size n b bu G C t ∧ hb ≠ b ∧ rb ≠ b := by
  rcases h.own.2 with ⟨_, h0⟩ | ⟨b, cap, cur, rfl, hB, hb2, h3, _, h5, h6⟩
  · omega
  subst hu
  refine ⟨b, cap, rfl, ⟨hB, h.u0, fun i hi => by have := h.lo i hi; have := h.u0; omega, (Array.getElem?_eq_some_iff.1 hb2).1, fun i hi => ?_, fun i hi => by rw [hr i hi]; exact h.m i hi, h.u, fun i hi => ?_, fun i hi => by have := h.lo i hi; omega, ?_, fun i j hi hj hne => ?_, ht, fun i hi => by rw [hr i hi]; exact hl i hi, hul, n8⟩, ne_types h.box hb2 (by decide), ne_types h.res hb2 (by decide)⟩
  · have e : (cur.toList.take (n * 1))[i]? = some (.slice (some ⟨G i, 0, none⟩) n (C i)) := by rw [h6]; simp [hi]
    rw [List.getElem?_take, if_pos (by omega), Array.getElem?_toList] at e
    simp only [World.cell?, hb2, e]
    rfl
  · obtain ⟨c2, hc2, _⟩ := h.m i hi
    exact ne_types hc2 hb2 (by decide)
  · obtain ⟨c2, hc2, _⟩ := h.u
    exact ne_types hc2 hb2 (by decide)
  · by_cases e : i < j
    · have := h.up i j e hj; omega
    · have := h.up j i (by omega) hi; omega
end Go.Proofs.Ytcdlgpickjiikag
