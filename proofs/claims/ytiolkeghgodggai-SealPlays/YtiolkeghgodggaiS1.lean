/-
  Bytes in memory: what a slice of bytes holds, and what leaves it alone.
-/
import Derived.Test.YtiolkeghgodggaiS0
import Derived.Test.YtiolkeghgodggaiMq
import Derived.Deep.QuietTactic
import Derived.BigQuiet
namespace Go.Proofs.Ytiolkeghgodggai.Se
open Go.RowKit Go.Shelf Go.Sort

theorem Try.infoByte : (Try.prog.info? 5).map (fun i => (i.zero, i.size, i.bytes)) = some (some (.int .u8 0), 1, 1) := by kernel_rfl
def encB : Enc Int := ⟨1, fun x => [.int .u8 x], fun _ => rfl, fun a u hu => by
  simp only [List.mem_cons, List.not_mem_nil, or_false] at hu
  subst hu; rfl, by decide⟩
theorem encB_at {l : List Int} {j : Nat} (h : j < l.length) : (encB.vals l)[j]? = some (.int .u8 (l.getD j 0)) := by
  have := encB.vals_at 0 l j 0 h (by decide)
  rw [show j * encB.n + 0 = j by show j * 1 + 0 = j; omega] at this
  rw [this]; rfl
/-- The slice '.slice p l.length c' holds the bytes l, in a block below B or in one of bytes. -/
structure By (B : Nat) (w : World) (p : Option Addr) (c : Nat) (l : List Int) : Prop where
  le : l.length ≤ c
  cm : c ≤ 9223372036854775807
  nl : p = none → c = 0
  cl : 0 < l.length → ∃ b off, p = some ⟨b, off, none⟩ ∧ b < w.heap.size ∧ (b < B ∨ ∃ cs fr, w.heap[b]? = some (.cells cs 5 fr)) ∧ ∀ j, j < l.length → w.cell? ⟨b, off + j, none⟩ = some (.int .u8 (l.getD j 0))
/-- Blocks below B, and those of bytes, are as they were. -/
structure Kb (B : Nat) (w w' : World) : Prop where
  os : w'.os = w.os
  tape : w'.tape = w.tape
  output : w'.output = w.output
  size : w.heap.size ≤ w'.heap.size
  block : ∀ k, k < w.heap.size → (k < B ∨ ∃ cs fr, w.heap[k]? = some (.cells cs 5 fr)) → w'.heap[k]? = w.heap[k]?
namespace Kb
variable {B : Nat} {w w' w'' : World}
theorem of_below (h : Below w.heap.size w w') : Kb B w w' := ⟨h.os, h.tape, h.output, h.size, fun k hk _ => h.block k hk⟩
theorem refl (B : Nat) (w : World) : Kb B w w := of_below (Below.refl _ _)
theorem trans (h : Kb B w w') (g : Kb B w' w'') : Kb B w w'' :=
  ⟨g.os.trans h.os, g.tape.trans h.tape, g.output.trans h.output, Nat.le_trans h.size g.size, fun k hk hp => by
    have e := h.block k hk hp
    refine (g.block k (Nat.lt_of_lt_of_le hk h.size) ?_).trans e
    rcases hp with x | ⟨cs, fr, x⟩
    · exact .inl x
    · exact .inr ⟨cs, fr, e.trans x⟩⟩
theorem below (h : Kb B w w') (hB : B ≤ w.heap.size) : Below B w w' :=
  ⟨h.os, h.tape, h.output, h.size, fun k hk => h.block k (by omega) (.inl hk)⟩
theorem grown {v : Value} {n s e : Nat} {xs : List Value} (h : w.ownsRow B e s v n xs) (he : e ≠ 5) (g : w.grownBy w' v.ownBlock) : Kb B w w' :=
  ⟨g.os, g.tape, g.output, g.size, fun k hk hp => g.block k hk (fun e' => by
    rcases h.2 with ⟨rfl, _⟩ | ⟨g', c, cur, rfl, hge, hb, _⟩
    · simp [Value.ownBlock] at e'
    · simp only [Value.ownBlock, Option.some.injEq] at e'
      subst e'
      rcases hp with x | ⟨cs, fr, x⟩
      · omega
      · rw [hb] at x
        simp at x
        exact he x.2.1)⟩
theorem set {b t n : Nat} {f : Nat → Value} (h : w.rowIs b t n f) (ht : t ≠ 5) (hb : B ≤ b) (i : Nat) (v : Value) : Kb B w (w.setCell ⟨b, i, none⟩ v) :=
  ⟨rfl, rfl, rfl, by simp, fun k _ hp => Below.heap_setCell w ⟨b, i, none⟩ v k (fun e => by
    have e' : k = b := e
    subst e'
    rcases hp with x | ⟨cs, fr, x⟩
    · omega
    · obtain ⟨c', hc, _⟩ := h
      rw [hc] at x
      simp at x
      exact ht x.2.1)⟩
end Kb
namespace By
variable {B : Nat} {w w' : World} {p : Option Addr} {c : Nat} {l : List Int}
theorem keep (h : By B w p c l) (g : Kb B w w') : By B w' p c l := ⟨h.le, h.cm, h.nl, fun h0 => by
  obtain ⟨b, off, rfl, hb, hk, hc⟩ := h.cl h0
  have e := g.block b hb hk
  refine ⟨b, off, rfl, Nat.lt_of_lt_of_le hb g.size, ?_, fun j hj => ?_⟩
  · rcases hk with x | ⟨cs, fr, x⟩
    · exact .inl x
    · exact .inr ⟨cs, fr, e.trans x⟩
  · rw [← hc j hj]
    simp only [World.cell?, e]⟩
theorem grow (h : By B w p c l) (g : Below w.heap.size w w') : By B w' p c l := h.keep (Kb.of_below g)
theorem drewN (h : By B w p c l) (q : Nat) : By B (w.drewN q) p c l := h.grow (below_drewN (Below.refl _ _) q)
/-- All that lies there now is below what comes. -/
theorem top (h : By B w p c l) : By w.heap.size w p c l := ⟨h.le, h.cm, h.nl, fun h0 => by
  obtain ⟨b, off, e, hb, _, hc⟩ := h.cl h0
  exact ⟨b, off, e, hb, .inl hb, hc⟩⟩
theorem up {C : Nat} (h : By B w p c l) (hc : B ≤ C) : By C w p c l := ⟨h.le, h.cm, h.nl, fun h0 => by
  obtain ⟨b, off, e, hb, hk, hcl⟩ := h.cl h0
  exact ⟨b, off, e, hb, hk.imp (fun x => by omega) id, hcl⟩⟩
theorem holds (h : By B w p c l) : encB.Holds w p l := fun h0 => by
  obtain ⟨b, off, e, hb, _, hc⟩ := h.cl h0
  refine ⟨b, off, e, hb, fun j u hu => ?_⟩
  have hj : j < l.length := by
    rcases Nat.lt_or_ge j l.length with x | x
    · exact x
    · rw [List.getElem?_eq_none (by rw [encB.vals_len]; show l.length * 1 ≤ j; omega)] at hu; cases hu
  rw [encB_at hj] at hu
  injection hu with hu
  rw [← hu]; exact hc j hj
theorem nil (B : Nat) (w : World) : By B w none 0 [] := ⟨Nat.le_refl _, by omega, fun _ => rfl, fun h => by simp at h⟩
/-- A row of bytes of the call's own. -/
theorem of_owns {B' n : Nat} {v : Value} (h : w.ownsRow B' 5 1 v n (encB.vals l)) (hn : l.length = n) : ∃ p c, v = .slice p n c ∧ By B w p c l := by
  subst hn
  rcases h.2 with ⟨rfl, h0⟩ | ⟨g, c, cur, rfl, hg, hb, h1, h2, h3, h4⟩
  · have : l = [] := List.length_eq_zero_iff.1 h0
    subst this
    exact ⟨none, 0, rfl, By.nil _ _⟩
  · refine ⟨_, c, rfl, h1, h2, (fun e => by cases e), fun h0 => ⟨g, 0, rfl, (Array.getElem?_eq_some_iff.1 hb).1, .inr ⟨_, _, hb⟩, fun j hj => ?_⟩⟩
    have := h.cells rfl j _ (encB_at hj)
    rw [add_at'] at this
    exact this
/-- A row of bytes that was made. -/
theorem of_row {g n : Nat} {f : Nat → Value} (h : w.rowIs g 5 n f) (hn : l.length = n) (hm : n ≤ 9223372036854775807) (hf : ∀ j, j < n → f j = .int .u8 (l.getD j 0)) : By B w (some ⟨g, 0, none⟩) n l :=
  ⟨by omega, hm, (fun e => by cases e), fun _ => ⟨g, 0, rfl, h.lt, .inr (by obtain ⟨c, hc, _⟩ := h; exact ⟨_, _, hc⟩), fun j hj => by rw [Nat.zero_add, h.cell (i := j) (by omega), hf j (by omega)]⟩⟩
/-- append of bytes onto a row of none. -/
theorem app0 {C D : Nat} {v : Value} (h : By B w p c l) (hl : l.length ≤ 1000) (hv : w.ownsRow C 5 1 v 0 []) (hC : C ≤ w.heap.size) :
    ∃ p' c' w', (Builtin.append_ #[42, 42] 42 #[v, .slice p l.length c]).run Try.prog w = .ok (.slice p' l.length c') w' ∧ By D w' p' c' l ∧ w.grownBy w' v.ownBlock := by
  obtain ⟨i0, hi, hz0, hz1, hz2⟩ := info_parts Try.infoByte
  obtain ⟨v', w', h1, h2, h3⟩ := encB.app (B := C) (n := 0) (l := []) (v := v) Try.underlying42 hi hz0 hz1 hz2 rfl hv h.holds rfl h.nl (by omega) (by omega) hC
  rw [List.nil_append, Nat.zero_add] at h2
  obtain ⟨p', c', rfl, hb⟩ := By.of_owns (B := D) h2 rfl
  exact ⟨p', c', w', h1, hb, h3⟩
/-- append of bytes onto nothing. -/
theorem app (h : By B w p c l) (hl : l.length ≤ 1000) : ∃ p' c' w', (Builtin.append_ #[42, 42] 42 #[.slice none 0 0, .slice p l.length c]).run Try.prog w = .ok (.slice p' l.length c') w' ∧ By B w' p' c' l ∧ Below w.heap.size w w' := by
  obtain ⟨p', c', w', h1, h2, h3⟩ := h.app0 (D := B) hl (World.ownsRow_nil w w.heap.size 5 1) (Nat.le_refl _)
  exact ⟨p', c', w', h1, h2, ⟨h3.os, h3.tape, h3.output, h3.size, fun k hk => h3.block k hk (by simp [Value.ownBlock])⟩⟩
/-- append of bytes onto an empty row that was just made. -/
theorem app1 {C : Nat} (h : By B w p c l) (hl : l.length ≤ 1000) : ∃ p' c' w', (Builtin.append_ #[42, 42] 42 #[.slice (some ⟨w.heap.size, 0, none⟩) 0 0, .slice p l.length c]).run Try.prog (w.alloc (.cells #[] 5)) = .ok (.slice p' l.length c') w' ∧ By C w' p' c' l ∧ Below w.heap.size w w' := by
  have hb : Below w.heap.size w (w.alloc (.cells #[] 5)) := (Below.refl _ _).alloc (Nat.le_refl _) _
  obtain ⟨p', c', w', h1, h2, h3⟩ := (h.grow hb).app0 (D := C) hl (C := w.heap.size) (v := .slice (some ⟨w.heap.size, 0, none⟩) 0 0) ⟨rfl, .inr ⟨w.heap.size, 0, #[], rfl, Nat.le_refl _, Deep.blk_alloc_new _ _, Nat.le_refl _, Nat.zero_le _, rfl, rfl⟩⟩ (by simp)
  exact ⟨p', c', w', h1, h2, ⟨h3.os, h3.tape, h3.output, Nat.le_trans hb.size h3.size, fun k hk => (h3.block k (by simp; omega) (by simp [Value.ownBlock]; omega)).trans (hb.block k hk)⟩⟩
end By
end Go.Proofs.Ytiolkeghgodggai.Se
