/-
  Goroutines among others: part 13 of what the law's own text rests on.
-/
import Derived.Test.YtcobehkadhcjiaaCc12
import Derived.Test.YtcobehkadhcjiaaRows
import Derived.WalkKit
import Derived.WalkSmall
import Derived.OpenShut
import Derived.ProofKit
import Derived.Deep.OwnRows
/-
  What a slice holds, as a list of numbers.
-/
namespace Go.Proofs.Ytcobehkadhcjiaa
open Go.ChangeShapes Go.WideShapes Go.ChangeAt Go.RowKit

theorem hid {p : Prop} (h : p) : Hid p := h

/-- The slice v holds the numbers l. -/
def Seg (w : World) (v : Value) (l : List Int) : Prop :=
  (l = [] ∧ ∃ p cap, v = .slice p 0 cap) ∨ ∃ b off cap, v = .slice (some ⟨b, off, none⟩) l.length cap ∧ ∀ j, j < l.length → w.cell? ⟨b, off + j, none⟩ = some (.int .i64 (l.getD j 0))

/-- A slice that is not empty lies in a block below B. -/
def Lies (B : Nat) (v : Value) : Prop := ∀ p n c, v = .slice (some p) n c → 0 < n → p.block < B

theorem Lies.mono {B C : Nat} {v : Value} (h : Lies B v) (hc : B ≤ C) : Lies C v := fun p n c e hn => Nat.lt_of_lt_of_le (h p n c e hn) hc
theorem lies_nil (B : Nat) (p : Option Addr) (c : Nat) : Lies B (.slice p 0 c) := fun q n c' e hn => by injection e with _ e2 _; omega
theorem lies_at {B b off n c : Nat} (h : b < B) : Lies B (.slice (some ⟨b, off, none⟩) n c) := fun q n c' e _ => by injection e with e1 _ _; injection e1 with e1; subst e1; exact h

theorem Seg.below {w w' : World} {v : Value} {l : List Int} {B : Nat} (h : Seg w v l) (hb : Below B w w') (hv : Lies B v) : Seg w' v l := by
  rcases h with ⟨rfl, p1, c1, rfl⟩ | ⟨b1, o1, c1, rfl, g1⟩
  · exact .inl ⟨rfl, p1, c1, rfl⟩
  · exact .inr ⟨b1, o1, c1, rfl, fun j hj => (hb.cell (p := ⟨b1, o1 + j, none⟩) (hv ⟨b1, o1, none⟩ _ _ rfl (Nat.zero_lt_of_lt hj))).trans (g1 j hj)⟩
/-- What a proof's frame says of a slice of integers that came in, as a list. -/
theorem row_list {k : IntKind} {w : World} {a : Option Addr} {len cap : Nat} {zs : List Int}
    (h : (a = none ∧ len = 0 ∧ cap = 0 ∧ zs = []) ∨
      ∃ x, a = some x ∧ len ≤ cap ∧ cap ≤ maxLen ∧ zs.length = cap ∧ (∀ i, i < zs.length → w.cell? (x.add i) = some (.int k (zs.getD i 0))) ∧ ∀ n ∈ zs, (Lit.int k n).wf = true) :
    ∃ l : List Int, l.length = len ∧ len ≤ cap ∧ cap ≤ 9223372036854775807 ∧ (∀ n ∈ l, (Lit.int k n).wf = true) ∧ Lies w.heap.size (.slice a len cap) ∧
      ((l = [] ∧ len = 0) ∨ ∃ b off, a = some ⟨b, off, none⟩ ∧ ∀ j, j < l.length → w.cell? ⟨b, off + j, none⟩ = some (.int k (l.getD j 0))) := by
  rcases h with ⟨rfl, rfl, rfl, rfl⟩ | ⟨x, rfl, hlc, hm, hz, hcell, hwf⟩
  · exact ⟨[], rfl, Nat.le_refl _, by decide, fun n hn => by simp at hn, lies_nil _ _ _, .inl ⟨rfl, rfl⟩⟩
  · have hml : cap ≤ 9223372036854775807 := hm
    refine ⟨zs.take len, by simp; omega, hlc, hml, fun n hn => hwf n (List.mem_of_mem_take hn), ?_⟩
    by_cases h0 : len = 0
    · exact ⟨h0 ▸ lies_nil _ _ _, .inl ⟨by rw [h0]; rfl, h0⟩⟩
    · obtain ⟨b, off, rfl, hc⟩ := ints_at hcell (by omega)
      refine ⟨lies_at ?_, .inr ⟨b, off, rfl, fun j hj => ?_⟩⟩
      · exact World.block_lt_of_cell? (w := w) (h := hc 0 (by omega))
      · have hj2 : j < len := by rw [List.length_take] at hj; omega
        rw [hc j (by omega)]
        simp [hj2]

theorem row_seg {w : World} {a : Option Addr} {len cap : Nat} {zs : List Int}
    (h : (a = none ∧ len = 0 ∧ cap = 0 ∧ zs = []) ∨
      ∃ x, a = some x ∧ len ≤ cap ∧ cap ≤ maxLen ∧ zs.length = cap ∧ (∀ i, i < zs.length → w.cell? (x.add i) = some (.int .i64 (zs.getD i 0))) ∧ ∀ n ∈ zs, (Lit.int .i64 n).wf = true) :
    ∃ l : List Int, l.length = len ∧ len ≤ cap ∧ cap ≤ 9223372036854775807 ∧ (∀ n ∈ l, (Lit.int .i64 n).wf = true) ∧ Lies w.heap.size (.slice a len cap) ∧ Seg w (.slice a len cap) l := by
  obtain ⟨l, h1, h2, h3, h4, h5, h6⟩ := row_list h
  refine ⟨l, h1, h2, h3, h4, h5, ?_⟩
  subst h1
  rcases h6 with ⟨rfl, _⟩ | ⟨b, off, rfl, hc⟩
  · exact .inl ⟨rfl, _, _, rfl⟩
  · exact .inr ⟨b, off, cap, rfl, hc⟩

theorem Seg.nil (w : World) : Seg w (.slice none 0 0) [] := .inl ⟨rfl, none, 0, rfl⟩

theorem Seg.drew {w : World} {v : Value} {l : List Int} (h : Seg w v l) (q : Nat) : Seg (w.drewN q) v l := by
  rcases h with ⟨rfl, p1, c1, rfl⟩ | ⟨b1, o1, c1, rfl, g1⟩
  · exact .inl ⟨rfl, p1, c1, rfl⟩
  · exact .inr ⟨b1, o1, c1, rfl, fun j hj => by simpa using g1 j hj⟩
end Go.Proofs.Ytcobehkadhcjiaa

/-
  THE PROGRAM at hand: what of it a goroutine may do among others.
-/
namespace Go.Proofs.Ytcobehkadhcjiaa
open Go Go.Conc

/-- A type that there is not. -/
abbrev bogT : TypeId := 1000000
abbrev shiftOf (n : Nat) (sh : Nat → Nat) : Shift := ⟨n, sh, bogT⟩

def okFn (P : Program) (S V : FuncId → Bool) (f : FuncId) : Bool := match P.funcs[f]? with
  | some fn => !(fn.name == "runtime.NumGoroutine") && (match fn.body with | some c => okCode P S V c | none => false)
  | none => false
theorem okFn_spec {P : Program} {S V : FuncId → Bool} {f : FuncId} (h : okFn P S V f = true) : ∃ fn c, P.funcs[f]? = some fn ∧ (fn.name == "runtime.NumGoroutine") = false ∧ fn.body = some c ∧ okCode P S V c = true := by
  unfold okFn at h
  cases hf : P.funcs[f]? with
  | none => rw [hf] at h; cases h
  | some fn =>
    rw [hf] at h
    simp only [Bool.and_eq_true, Bool.not_eq_true'] at h
    obtain ⟨h1, h2⟩ := h
    cases hb : fn.body with
    | none => rw [hb] at h2; cases h2
    | some c => rw [hb] at h2; exact ⟨fn, c, rfl, h1, hb, h2⟩
end Go.Proofs.Ytcobehkadhcjiaa
