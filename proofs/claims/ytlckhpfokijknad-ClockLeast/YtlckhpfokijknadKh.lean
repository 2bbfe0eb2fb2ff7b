/-
  Clocks of four numbers in rows of their own: Join, order and sameInts at them.
-/
import Derived.Test.YtlckhpfokijknadKc
import Derived.Test.YtlckhpfokijknadSik
namespace Go.Proofs.Ytlckhpfokijknad
open Go.RowKit

/-- The block p holds the clock a of four numbers, which may be. -/
structure Held (w : World) (p : Nat) (a : List Int) : Prop where
  fit : Plain.Fit 4 a
  row : RowI w p a
theorem Held.seg {w : World} {p : Nat} {a : List Int} (h : Held w p a) : Seg w (.slice (some ⟨p, 0, none⟩) 4 4) a := by
  have := h.row.seg 4
  rwa [h.fit.2] at this
theorem Held.lies {w : World} {p : Nat} {a : List Int} (h : Held w p a) : Lies w.heap.size (.slice (some ⟨p, 0, none⟩) 4 4) := h.row.lies _ _
theorem Held.keep {w w' : World} {p : Nat} {a : List Int} (h : Held w p a) (g : Below w.heap.size w w') : Held w' p a := ⟨h.fit, h.row.below g h.row.lt⟩
theorem Held.drew {w : World} {p : Nat} {a : List Int} (h : Held w p a) (q : Nat) : Held (w.drewN q) p a := h.keep (below_drewN (Below.refl _ _) q)
theorem keeps {w u v : World} (h : Below w.heap.size w u) (g : Below u.heap.size u v) : Below w.heap.size w v := h.trans (g.mono h.size)

theorem hclock (v : Value) (l : List Int) (hr : ∀ n ∈ l, (Lit.int .i64 n).wf = true) (hl : l.length ≤ 9223372036854775807) (w : World) (h : Seg w v l) (hv : Lies w.heap.size v) :
    Calls Try.prog 19 #[v] w fun e w' => ∃ p, e = .returned (.slice (some ⟨p, 0, none⟩) 4 4) ∧ Held w' p (Plain.clk l) ∧ Below w.heap.size w w' := by
  refine (clockOf_any v l hr hl w h hv).mono ?_
  rintro e w' ⟨rfl, hr, hb⟩
  exact ⟨_, rfl, ⟨Plain.clk_fit l, hr⟩, hb⟩
theorem hjoin (p q : Nat) (a b : List Int) (w : World) (h1 : Held w p a) (h2 : Held w q b) :
    Calls Try.prog 11 #[.slice (some ⟨p, 0, none⟩) 4 4, .slice (some ⟨q, 0, none⟩) 4 4] w fun e w' =>
      ∃ r, e = .returned (.tuple #[.slice (some ⟨r, 0, none⟩) 4 4, .int .i64 0]) ∧ Held w' r (Plain.joinL a b) ∧ Below w.heap.size w w' := by
  refine (join_ok _ _ a b (h1.fit.cE h2.fit) w h1.seg h1.lies h2.seg h2.lies).mono ?_
  rintro e w' ⟨rfl, hr, hb⟩
  exact ⟨w.heap.size, by rw [h1.fit.2], ⟨Plain.joinL_fit h1.fit h2.fit, hr⟩, hb⟩
theorem hsame (p q : Nat) (a b : List Int) (w : World) (h1 : Held w p a) (h2 : Held w q b) (e0 : a = b) :
    Calls Try.prog 21 #[.slice (some ⟨p, 0, none⟩) 4 4, .slice (some ⟨q, 0, none⟩) 4 4] w fun e w' => e = .returned (.bool true) ∧ Below w.heap.size w w' := by
  refine (keep.same_any _ _ a b (by rw [h1.fit.2]; omega) w h1.seg h2.seg).mono ?_
  rintro e w' ⟨rfl, n, rfl⟩
  exact ⟨ret_bool (by rw [decide_eq_true_iff]; exact e0), below_drewN (Below.refl _ _) n⟩
theorem horder (p q : Nat) (a b : List Int) (w : World) (h1 : Held w p a) (h2 : Held w q b) :
    Calls Try.prog 20 #[.slice (some ⟨p, 0, none⟩) 4 4, .slice (some ⟨q, 0, none⟩) 4 4] w fun e w' => e = .returned (.int .i64 (Plain.oV a b)) ∧ Below w.heap.size w w' := by
  refine (korder _ _ 4 a b h1.fit h2.fit w h1.seg h2.seg).mono ?_
  rintro e w' ⟨rfl, n, rfl⟩
  exact ⟨rfl, below_drewN (Below.refl _ _) n⟩

namespace Plain
theorem max_at {n : Nat} {a b : List Int} (ha : Fit n a) (i : Nat) (hi : i < n) : (joinL a b).getD i 0 = max (a.getD i 0) (b.getD i 0) := joinL_at _ _ _ (by rw [ha.2]; exact hi)
theorem join_comm {n : Nat} {a b : List Int} (ha : Fit n a) (hb : Fit n b) : joinL a b = joinL b a :=
  ext_at (joinL_fit ha hb).2 (joinL_fit hb ha).2 fun i hi => by rw [max_at ha i hi, max_at hb i hi]; omega
theorem join_assoc {n : Nat} {a b c : List Int} (ha : Fit n a) (hb : Fit n b) (hc : Fit n c) : joinL (joinL a b) c = joinL a (joinL b c) :=
  ext_at (joinL_fit (joinL_fit ha hb) hc).2 (joinL_fit ha (joinL_fit hb hc)).2 fun i hi => by
    rw [max_at (joinL_fit ha hb) i hi, max_at ha i hi, max_at ha i hi, max_at hb i hi]; omega
theorem join_self {n : Nat} {a : List Int} (ha : Fit n a) : joinL a a = a :=
  ext_at (joinL_fit ha ha).2 ha.2 fun i hi => by rw [max_at ha i hi]; omega
theorem join_up {n : Nat} {a b : List Int} (ha : Fit n a) (hb : Fit n b) : oV a (joinL a b) ≤ 0 :=
  (oV_le ha (joinL_fit ha hb)).2 fun i hi => by rw [max_at ha i hi]; omega
theorem join_up2 {n : Nat} {a b : List Int} (ha : Fit n a) (hb : Fit n b) : oV b (joinL a b) ≤ 0 :=
  (oV_le hb (joinL_fit ha hb)).2 fun i hi => by rw [max_at ha i hi]; omega
theorem join_least {n : Nat} {a b c : List Int} (ha : Fit n a) (hb : Fit n b) (hc : Fit n c) : oV (joinL a b) c ≤ 0 ↔ oV a c ≤ 0 ∧ oV b c ≤ 0 := by
  rw [oV_le (joinL_fit ha hb) hc, oV_le ha hc, oV_le hb hc]
  constructor
  · intro h
    exact ⟨fun i hi => by have := h i hi; rw [max_at ha i hi] at this; omega, fun i hi => by have := h i hi; rw [max_at ha i hi] at this; omega⟩
  · rintro ⟨h1, h2⟩ i hi
    have := h1 i hi
    have := h2 i hi
    rw [max_at ha i hi]; omega
end Plain
end Go.Proofs.Ytlckhpfokijknad
