/-
  What the laws on gossip lean on.
-/
import Derived.Test.YtiolkeghgodggakGf
import Derived.Test.YtiolkeghgodggakGu
import Derived.Test.YtiolkeghgodggakSek
namespace Go.Proofs.Ytiolkeghgodggak
open Go.RowKit Go.Shelf Go.Sort

theorem seg_nums {w : World} {v : Value} {l : List Int} (h : Seg w v l) (hv : Lies w.heap.size v) : ∃ p c, v = .slice p l.length c ∧ Nums w p l := by
  rcases h with ⟨rfl, p, c, rfl⟩ | ⟨b, off, c, rfl, g⟩
  · exact ⟨p, c, rfl, Nums.nil _ _⟩
  · exact ⟨_, c, rfl, fun h => ⟨b, off, rfl, hv _ _ _ rfl h, g⟩⟩
theorem wf_bounds {l : List Int} (h : ∀ n ∈ l, (Lit.int .i64 n).wf = true) : ∀ x, x ∈ l → -9223372036854775808 ≤ x ∧ x ≤ 9223372036854775807 := fun x hx => Go.bounds_i64 (h x hx)
theorem row_nums {w : World} {b n : Nat} {L : List Int} (h : w.rowIs b 3 n (rowV (Plain.labAt L))) (hL : L.length = n) : Nums w (some ⟨b, 0, none⟩) L := fun _ =>
  ⟨b, 0, rfl, h.lt, fun j hj => by rw [Nat.zero_add]; exact h.cell (i := j) (by omega)⟩
/-- Bit i of a label, as a number. -/
theorem bit_num (z i : Nat) (hz : z < 256) : bits .and .i64 ((z : Int) / 2 ^ i) 1 = if Plain.reads (z : Int) i = true then 1 else 0 := by
  have e : ((z : Int) / 2 ^ i) = ((z / 2 ^ i : Nat) : Int) := by simp
  have h : z / 2 ^ i ≤ z := Nat.div_le_self _ _
  have e2 : bits .and .i64 ((z / 2 ^ i : Nat) : Int) 1 = ((z / 2 ^ i % 2 : Nat) : Int) := by
    rw [show (1 : Int) = ((1 : Nat) : Int) from rfl, LabP.and_nat _ _ (by omega) (by decide), Nat.and_one_is_mod]
  rw [e, e2]
  unfold Plain.reads
  rw [Int.toNat_natCast]
  by_cases hb : z / 2 ^ i % 2 = 1
  · rw [hb]; simp
  · have : z / 2 ^ i % 2 = 0 := by omega
    rw [this]; simp
/-- What a branch has of a label: where it lies. -/
theorem Stores.place {w : World} {q : Option Addr} {n m : Nat} {s : Plain.Stt} (h : Stores w q n m s) (h0 : 0 < n) (m0 : 0 < m) : ∃ b off, q = some ⟨b, off, none⟩ ∧ b < w.heap.size ∧ ∀ i, i < n → ∃ b' o' c, b' < w.heap.size ∧ w.cell? ⟨b, off + i, none⟩ = some (.slice (some ⟨b', o', none⟩) m c) ∧
    ∀ j, j < m → ∃ p d, w.cell? ⟨b', o' + j, none⟩ = some (.slice p (s i j).length d) ∧ SegN w (.slice p (s i j).length d) (s i j) ∧ Lies w.heap.size (.slice p (s i j).length d) := by
  obtain ⟨b, off, e, hb, hr⟩ := h h0
  refine ⟨b, off, e, hb, fun i hi => ?_⟩
  obtain ⟨p, c, hc, hm⟩ := hr i hi
  obtain ⟨b', o', rfl, hb', hs⟩ := hm m0
  refine ⟨b', o', c, hb', hc, fun j hj => ?_⟩
  obtain ⟨v, hv, sg, ly⟩ := hs j hj
  obtain ⟨pp, d, rfl, _⟩ := sg.form
  exact ⟨pp, d, hv, sg, ly⟩
namespace Plain
def oneT : Tu := ⟨1, 0, 0, 0, 0, 5⟩
theorem one_has : stF 4 [1] Stt.nil [oneT] 0 0 = [⟨0, 5, 1, 0, false⟩] := by decide
end Plain
end Go.Proofs.Ytiolkeghgodggak
