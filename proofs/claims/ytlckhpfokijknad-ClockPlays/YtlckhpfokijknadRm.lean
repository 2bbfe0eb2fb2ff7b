/-
  The document's play in memory: what events hang on, and their clocks, row by row.
-/
import Derived.Test.YtlckhpfokijknadPi
namespace Go.Proofs.Ytlckhpfokijknad
open Go.RowKit

namespace Plain
/-- Does event m hang on j, by the first k events? -/
def onK (l : List Ev) (n m k j : Nat) : Bool := decide (j = m) || (List.range k).any (fun k' => stepB l m k' && on l n m k' j)
theorem onK_skip {l : List Ev} {n m k : Nat} (h : stepB l m k = false) (j : Nat) : onK l n m (k + 1) j = onK l n m k j := by
  simp [onK, List.range_succ, List.any_append, h]
theorem onK_take {l : List Ev} {n m k : Nat} (h : stepB l m k = true) (j : Nat) : onK l n m (k + 1) j = (onK l n m k j || on l n m k j) := by
  simp [onK, List.range_succ, List.any_append, h, Bool.or_assoc]
theorem on_last (l : List Ev) (n m j : Nat) (hj : j < n) : on l n (m + 1) m j = onK l n m m j := by
  unfold on; rw [hangs, getD_snoc, hangs_len, if_neg (by omega), if_pos rfl, getD_map_range _ _ _ _ hj]; rfl
theorem tally_same {l : List Ev} {f g : Nat → Bool} (s n : Nat) (h : ∀ j, j < n → f j = g j) : tally l f s n = tally l g s n := by
  induction n with
  | zero => rfl
  | succ n ih => unfold tally; rw [ih fun j hj => h j (by omega), h n (by omega)]
theorem tally_le (l : List Ev) (f : Nat → Bool) (s n : Nat) : tally l f s n ≤ n := by
  induction n with
  | zero => exact Nat.le_refl _
  | succ n ih => unfold tally; split <;> omega
end Plain

theorem owns_below {w w' : World} {B e s n : Nat} {v : Value} {xs : List Value} (h : w.ownsRow B e s v n xs) (g : Below w.heap.size w w') : w'.ownsRow B e s v n xs :=
  h.kept (row := none) ⟨g.os, g.tape, g.output, g.size, fun k hk _ => g.block k hk⟩ (by cases hv : v.ownBlock <;> simp)
theorem row_owns_ne {w : World} {b t n B e s m : Nat} {f : Nat → Value} {v : Value} {xs : List Value} (h : w.rowIs b t n f) (o : w.ownsRow B e s v m xs) (hne : t ≠ e) : some b ≠ v.ownBlock := by
  intro e1
  obtain ⟨c, hc, _⟩ := h
  rcases o.2 with ⟨rfl, _⟩ | ⟨g, cap, cur, rfl, _, hg, _⟩
  · simp [Value.ownBlock] at e1
  · simp only [Value.ownBlock, Option.some.injEq] at e1
    subst e1
    rw [hc] at hg
    simp at hg
    exact hne hg.2
theorem owns_owns_ne {w : World} {B e1 e2 s1 s2 m1 m2 : Nat} {v1 v2 : Value} {xs1 xs2 : List Value} (o1 : w.ownsRow B e1 s1 v1 m1 xs1) (o2 : w.ownsRow B e2 s2 v2 m2 xs2) (hne : e1 ≠ e2) : v1.ownBlock = none ∨ v1.ownBlock ≠ v2.ownBlock := by
  rcases o1.2 with ⟨rfl, _⟩ | ⟨g, cap, cur, rfl, _, hg, _⟩
  · exact .inl rfl
  · right
    intro e
    rcases o2.2 with ⟨rfl, _⟩ | ⟨g', cap', cur', rfl, _, hg', _⟩
    · simp [Value.ownBlock] at e
    · simp only [Value.ownBlock, Option.some.injEq] at e
      subst e
      rw [hg] at hg'
      simp at hg'
      exact hne hg'.2

/-- Rows of L each, at the blocks g. -/
def rvals (L : Nat) (g : Nat → Nat) (m : Nat) : List Value := (List.range m).map fun k => .slice (some ⟨g k, 0, none⟩) L L
theorem rvals_snoc (L : Nat) (g : Nat → Nat) (m b : Nat) : rvals L g m ++ [.slice (some ⟨b, 0, none⟩) L L] = rvals L (fun k => if k = m then b else g k) (m + 1) := by
  unfold rvals
  rw [List.range_succ, List.map_append]
  congr 1
  · refine List.map_congr_left fun k hk => ?_
    rw [List.mem_range] at hk
    show _ = Value.slice (some ⟨if k = m then b else g k, 0, none⟩) L L
    rw [if_neg (by omega)]
  · simp
theorem rvals_get {L m k : Nat} (g : Nat → Nat) (h : k < m) : (rvals L g m)[k]? = some (.slice (some ⟨g k, 0, none⟩) L L) := by
  simp [rvals, h]
theorem rvals_cell {w : World} {B e L m k gb c : Nat} {g : Nat → Nat} (h : w.ownsRow B e 1 (.slice (some ⟨gb, 0, none⟩) m c) m (rvals L g m)) (hk : k < m) : w.cell? ⟨gb, k, none⟩ = some (.slice (some ⟨g k, 0, none⟩) L L) := by
  have := h.cells rfl k _ (rvals_get g hk)
  by_cases e : k = 0
  · subst e; simpa [Addr.add] using this
  · simpa [Addr.add, e] using this

/-- What lies in memory behind mh rows of what hangs, and mo clocks. -/
structure RI (n L mh mo : Nat) (l : List Plain.Ev) (w0 w : World) (vh vo : Value) (gH gO : Nat → Nat) : Prop where
  hown : w.ownsRow w0.heap.size 48 1 vh mh (rvals L gH mh)
  oown : w.ownsRow w0.heap.size 22 1 vo mo (rvals n gO mo)
  hI : ∀ k, k < mh → w.rowIs (gH k) 4 L (fun j => .bool (Plain.on l L mh k j))
  oI : ∀ k, k < mo → w.rowIs (gO k) 3 n (fun s => .int .i64 (Plain.tally l (Plain.on l L mh k) s L : Nat))
  bel : Below w0.heap.size w0 w

variable {n L mh mo m : Nat} {l : List Plain.Ev} {w0 w w' : World} {vh vo : Value} {gH gO : Nat → Nat}

theorem RI.grow (h : RI n L mh mo l w0 w vh vo gH gO) (g : Below w.heap.size w w') : RI n L mh mo l w0 w' vh vo gH gO :=
  ⟨owns_below h.hown g, owns_below h.oown g, fun k hk => (h.hI k hk).of_block (g.block _ (h.hI k hk).lt), fun k hk => (h.oI k hk).of_block (g.block _ (h.oI k hk).lt), h.bel.trans (g.mono h.bel.size)⟩

theorem RI.start (w : World) : RI n L 0 0 l w w (.slice none 0 0) (.slice none 0 0) gH gO :=
  ⟨World.ownsRow_nil _ _ _ _, World.ownsRow_nil _ _ _ _, fun k hk => by omega, fun k hk => by omega, Below.refl _ _⟩

theorem RI.hang {wx w1 : World} {o : Obj} {vh' : Value} {b : Nat} (h : RI n L m m l w0 w vh vo gH gO) (g : Below w.heap.size w wx) (hr : wx.rowIs b 4 L (fun j => .bool (Plain.onK l L m m j)))
    (hg : (wx.alloc o).grownBy w1 vh.ownBlock) (hown : w1.ownsRow w0.heap.size 48 1 vh' (m + 1) (rvals L gH m ++ [.slice (some ⟨b, 0, none⟩) L L])) :
    RI n L (m + 1) m l w0 w1 vh' vo (fun k => if k = m then b else gH k) gO := by
  have h2 := (h.grow g).grow ((Below.refl _ _).alloc (Nat.le_refl _) o)
  have hr2 := hr.alloc o
  refine ⟨by rw [← rvals_snoc]; exact hown, h2.oown.kept hg (owns_owns_ne h2.oown h2.hown (by decide)), fun k hk => ?_, fun k hk => ?_, h2.bel.grown hg h2.bel.size fun k hk => (h2.hown.lt k hk).1⟩
  · by_cases e : k = m
    · subst e
      simp only [if_true]
      refine (hr2.of_block (hg.block _ hr2.lt (row_owns_ne hr2 h2.hown (by decide)))).congr fun j hj => ?_
      rw [Plain.on_last _ _ _ _ hj]
    · have hk' : k < m := by omega
      simp only [e, if_false]
      have h3 := h2.hI k hk'
      refine (h3.of_block (hg.block _ h3.lt (row_owns_ne h3 h2.hown (by decide)))).congr fun j hj => ?_
      rw [Plain.on_old _ _ _ _ _ hk']
  · have h3 := h2.oI k hk
    refine (h3.of_block (hg.block _ h3.lt (row_owns_ne h3 h2.hown (by decide)))).congr fun s hs => ?_
    rw [Plain.tally_same s L fun j _ => Plain.on_old l L m k j hk]

theorem RI.out {wx w1 : World} {o : Obj} {vo' : Value} {b : Nat} (h : RI n L (m + 1) m l w0 w vh vo gH gO) (g : Below w.heap.size w wx) (hr : wx.rowIs b 3 n (fun s => .int .i64 (Plain.tally l (Plain.on l L (m + 1) m) s L : Nat)))
    (hg : (wx.alloc o).grownBy w1 vo.ownBlock) (hown : w1.ownsRow w0.heap.size 22 1 vo' (m + 1) (rvals n gO m ++ [.slice (some ⟨b, 0, none⟩) n n])) :
    RI n L (m + 1) (m + 1) l w0 w1 vh vo' gH (fun k => if k = m then b else gO k) := by
  have h2 := (h.grow g).grow ((Below.refl _ _).alloc (Nat.le_refl _) o)
  have hr2 := hr.alloc o
  refine ⟨h2.hown.kept hg (owns_owns_ne h2.hown h2.oown (by decide)), by rw [← rvals_snoc]; exact hown, fun k hk => ?_, fun k hk => ?_, h2.bel.grown hg h2.bel.size fun k hk => (h2.oown.lt k hk).1⟩
  · have h3 := h2.hI k hk
    exact h3.of_block (hg.block _ h3.lt (row_owns_ne h3 h2.oown (by decide)))
  · by_cases e : k = m
    · subst e
      simp only [if_true]
      exact hr2.of_block (hg.block _ hr2.lt (row_owns_ne hr2 h2.oown (by decide)))
    · have hk' : k < m := by omega
      simp only [e, if_false]
      have h3 := h2.oI k hk'
      exact h3.of_block (hg.block _ h3.lt (row_owns_ne h3 h2.oown (by decide)))
end Go.Proofs.Ytlckhpfokijknad
