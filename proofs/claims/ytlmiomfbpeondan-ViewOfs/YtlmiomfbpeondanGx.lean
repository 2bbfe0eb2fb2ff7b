/-
  Rows of structs of N one-cell fields, whatever the structs: what a slice holds as a list; append.
-/
import Derived.Test.YtlmiomfbpeondanSg
import Derived.Laws.AppendOwnNone
namespace Go.Proofs.Ytlmiomfbpeondan
open Go.RowKit

/-- How a struct stands in N cells. -/
structure Enc (α : Type) where
  n : Nat
  enc : α → List Value
  len : ∀ a, (enc a).length = n
  one : ∀ a, ∀ u ∈ enc a, u.oneCell' = true
  pos : 0 < n
variable {α : Type} (E : Enc α)
def Enc.vals (l : List α) : List Value := l.flatMap E.enc
theorem Enc.vals_cons (a : α) (l : List α) : E.vals (a :: l) = E.enc a ++ E.vals l := rfl
theorem Enc.vals_app (a b : List α) : E.vals (a ++ b) = E.vals a ++ E.vals b := by simp [Enc.vals]
theorem Enc.vals_one (a : α) : E.vals [a] = E.enc a := by simp [Enc.vals]
theorem Enc.vals_len (l : List α) : (E.vals l).length = l.length * E.n := by
  induction l with
  | nil => simp [Enc.vals]
  | cons a l ih => rw [E.vals_cons, List.length_append, E.len, ih, List.length_cons, Nat.add_mul, Nat.one_mul]; omega
theorem Enc.vals_cell (l : List α) : ∀ u ∈ E.vals l, u.oneCell' = true := by
  intro u hu
  obtain ⟨a, _, h⟩ := List.mem_flatMap.1 hu
  exact E.one a u h
theorem Enc.vals_at (d : α) (l : List α) (j k : Nat) (hj : j < l.length) (hk : k < E.n) : (E.vals l)[j * E.n + k]? = (E.enc (l.getD j d))[k]? := by
  induction l generalizing j with
  | nil => simp at hj
  | cons a l ih =>
    rw [E.vals_cons]
    cases j with
    | zero =>
      rw [Nat.zero_mul, Nat.zero_add, List.getElem?_append_left (by rw [E.len]; exact hk)]
      rfl
    | succ j =>
      rw [List.getElem?_append_right (by rw [E.len, Nat.add_mul, Nat.one_mul]; omega), E.len, Nat.add_mul, Nat.one_mul, show j * E.n + E.n + k - E.n = j * E.n + k by omega, ih j (by simpa using hj)]
      rfl

/-- A slice '.slice p l.length c' holds the structs l. -/
def Enc.Holds (w : World) (p : Option Addr) (l : List α) : Prop :=
  0 < l.length → ∃ b off, p = some ⟨b, off, none⟩ ∧ b < w.heap.size ∧ ∀ j u, (E.vals l)[j]? = some u → w.cell? ⟨b, off + j, none⟩ = some u
variable {E}
theorem Enc.Holds.grow {w w' : World} {p : Option Addr} {l : List α} (h : E.Holds w p l) (g : Below w.heap.size w w') : E.Holds w' p l := fun h0 => by
  obtain ⟨b, off, rfl, hb, hc⟩ := h h0
  exact ⟨b, off, rfl, Nat.lt_of_lt_of_le hb g.size, fun j u hu => (g.cell (p := ⟨b, off + j, none⟩) hb).trans (hc j u hu)⟩
theorem Enc.Holds.drew {w : World} {p : Option Addr} {l : List α} (h : E.Holds w p l) (q : Nat) : E.Holds (w.drewN q) p l := fun h0 => by
  obtain ⟨b, off, rfl, hb, hc⟩ := h h0
  exact ⟨b, off, rfl, hb, fun j u hu => by simpa using hc j u hu⟩
theorem Enc.Holds.nil (w : World) (p : Option Addr) : E.Holds w p [] := fun h => by simp at h
/-- The cell of a field. -/
theorem Enc.Holds.at {w : World} {p : Option Addr} {l : List α} (h : E.Holds w p l) (d : α) (h0 : 0 < l.length) : ∃ b off, p = some ⟨b, off, none⟩ ∧ b < w.heap.size ∧
    ∀ j k u, j < l.length → k < E.n → (E.enc (l.getD j d))[k]? = some u → w.cell? ⟨b, off + (j * E.n + k), none⟩ = some u := by
  obtain ⟨b, off, rfl, hb, hc⟩ := h h0
  exact ⟨b, off, rfl, hb, fun j k u hj hk hu => hc _ _ (by rw [E.vals_at d l j k hj hk]; exact hu)⟩
theorem add_at' (b o j : Nat) : (⟨b, o, none⟩ : Addr).add j = ⟨b, o + j, none⟩ := by unfold Addr.add; split <;> simp_all
/-- A row of the call's own, in one form. -/
theorem Enc.owns {w : World} {B e n : Nat} {v : Value} {l : List α} (h : w.ownsRow B e E.n v n (E.vals l)) (hn : l.length = n) : ∃ p c, v = .slice p n c ∧ E.Holds w p l ∧ (p = none → c = 0) ∧ (0 < n → ∃ g, p = some ⟨g, 0, none⟩ ∧ B ≤ g) := by
  rcases h.2 with ⟨rfl, h0⟩ | ⟨g, c, cur, rfl, hg, hb, h1, h2, h3, h4⟩
  · subst h0
    exact ⟨none, 0, rfl, fun h => by omega, fun _ => rfl, fun h => by omega⟩
  · refine ⟨_, c, rfl, fun h0 => ⟨g, 0, rfl, ?_, fun j u hu => ?_⟩, (fun e => by cases e), fun _ => ⟨g, rfl, hg⟩⟩
    · obtain ⟨hlt, _⟩ := Array.getElem?_eq_some_iff.1 hb
      exact hlt
    · have := h.cells rfl j u hu
      rw [add_at'] at this
      exact this
/-- append of what a slice of structs holds onto a row of the call's own, whatever the slice. -/
theorem Enc.app {w : World} {B n m c t e bytes : Nat} {i : TypeInfo} {z v : Value} {p : Option Addr} {l q : List α} (ht : Try.prog.underlying t = some (.slice e)) (hi : Try.prog.info? e = some i) (hz : i.zero = some z) (hsize : i.size = E.n) (hby : i.bytes = bytes) (hzs : z.cells.size = E.n)
    (hown : w.ownsRow B e E.n v n (E.vals l)) (hq : E.Holds w p q) (hm : q.length = m) (hnil : p = none → c = 0) (h63 : n + m ≤ 1000000) (hbytes : (n + m) * bytes ≤ 140737488355328) (hB : B ≤ w.heap.size) :
    ∃ v' w', (Builtin.append_ #[t, t] t #[v, .slice p m c]).run Try.prog w = .ok v' w' ∧ w'.ownsRow B e E.n v' (n + m) (E.vals (l ++ q)) ∧ w.grownBy w' v.ownBlock := by
  subst hm
  cases p with
  | none =>
    have h0 : q = [] := by
      by_cases h : 0 < q.length
      · obtain ⟨_, _, e, _⟩ := hq h; cases e
      · exact List.length_eq_zero_iff.1 (by omega)
    subst h0
    have hc := hnil rfl
    subst hc
    refine ⟨v, w, ?_, by simpa using hown, ⟨rfl, rfl, rfl, Nat.le_refl _, fun _ _ _ => rfl⟩⟩
    exact run_append_owned_none (P := Try.prog) (w := w) B t t e i E.n ht hi v n _ hown
  | some a =>
    obtain ⟨v', w', h1, h2, h3, _⟩ := run_append_own (P := Try.prog) w B t t e i z E.n bytes ht hi hz hsize hby hzs E.pos v n _ hown a q.length c (E.vals q)
      (E.vals_len q) (fun j u hu => by
        have hpos : 0 < q.length := by
          rcases Nat.eq_zero_or_pos q.length with h | h
          · have : q = [] := List.length_eq_zero_iff.1 h
            subst this
            simp [Enc.vals] at hu
          · exact h
        obtain ⟨b, o, e, _, g⟩ := hq hpos
        have e' := Option.some.inj e
        subst e'
        rw [add_at']
        exact g j u hu) (E.vals_cell q) (by unfold maxLen; omega) hbytes hB
    exact ⟨v', w', h1, by rw [E.vals_app]; exact h2, h3⟩
/-- A struct in cells of its own, as a slice of one. -/
theorem Enc.one_holds (w : World) (a : α) (e : TypeId) : E.Holds (w.alloc (.cells (E.enc a).toArray e)) (some ⟨w.heap.size, 0, none⟩) [a] := fun _ => by
  refine ⟨w.heap.size, 0, rfl, by simp, fun j u hu => ?_⟩
  rw [E.vals_one] at hu
  rw [World.cell?_alloc_at _ _ _ _ (by rfl), Nat.zero_add]
  simpa using hu
end Go.Proofs.Ytlmiomfbpeondan
