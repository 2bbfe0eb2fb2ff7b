/-
  GossipBlind: turns that are turned, plain and in memory.
-/
import Derived.Test.YtiolkeghgodggakGg
namespace Go.Proofs.Ytiolkeghgodggak
open Go.RowKit Go.Shelf Go.Sort
namespace Plain
/-- A turn under a label in which none of some is, turned as another one says. -/
def blT (L : List Int) (c : Nat) (t o : Tu) : Tu :=
  if t.kind ≠ 3 ∧ (labAt L t.label.toNat).toNat &&& c = 0 then ⟨1 + o.kind % 2, t.who, t.to, t.label, o.key % 5, if o.kind % 2 = 0 then o.value % 9 else 0⟩ else t
def blL (L : List Int) (c : Nat) (ts os : List Tu) (k : Nat) : List Tu := (List.range ts.length).map fun i => if i < k ∧ i < os.length then blT L c (ts.getD i default) (os.getD i default) else ts.getD i default
theorem blL_len (L : List Int) (c : Nat) (ts os : List Tu) (k : Nat) : (blL L c ts os k).length = ts.length := by simp [blL]
theorem blL_at (L : List Int) (c : Nat) (ts os : List Tu) (k : Nat) {i : Nat} (h : i < ts.length) : (blL L c ts os k).getD i default = if i < k ∧ i < os.length then blT L c (ts.getD i default) (os.getD i default) else ts.getD i default := by
  unfold blL
  rw [List.getD_eq_getElem?_getD, List.getElem?_map, List.getElem?_range h]
  rfl
theorem blL_all {L : List Int} {c : Nat} {ts os : List Tu} {k : Nat} (h : ts.length ≤ k ∨ os.length ≤ k) : ∀ i, i < ts.length → (blL L c ts os k).getD i default = (blL L c ts os ts.length).getD i default := by
  intro i hi
  rw [blL_at L c ts os k hi, blL_at L c ts os _ hi]
  by_cases h1 : i < os.length
  · rw [if_pos ⟨by omega, h1⟩, if_pos ⟨hi, h1⟩]
  · rw [if_neg (fun x => h1 x.2), if_neg (fun x => h1 x.2)]
/-- One of some is in the label. -/
def inC (L : List Int) (c j : Nat) : Prop := ¬ (labAt L j).toNat &&& c = 0
theorem blL_alk {L : List Int} {c : Nat} {ts os : List Tu} (k : Nat) : Alk (inC L c) ts (blL L c ts os k) := by
  refine ⟨(blL_len L c ts os k).symm, fun i hi => ?_⟩
  rw [blL_at L c ts os k hi]
  by_cases h : i < k ∧ i < os.length
  · rw [if_pos h]
    generalize ts.getD i default = t
    generalize os.getD i default = o
    unfold blT
    by_cases h2 : t.kind ≠ 3 ∧ (labAt L t.label.toNat).toNat &&& c = 0
    · rw [if_pos h2]
      exact .inr ⟨h2.1, by show ¬ 1 + o.kind % 2 = 3; omega, fun x => x h2.2, fun x => x h2.2⟩
    · rw [if_neg h2]; exact .inl rfl
  · rw [if_neg h]; exact .inl rfl
theorem inC_of {L : List Int} {c i j z : Nat} (ez : labAt L j = (z : Int)) (h1 : reads (z : Int) i = true) (h2 : reads (c : Int) i = true) : inC L c j := by
  unfold inC
  rw [ez, Int.toNat_natCast]
  intro e
  rw [LabP.reads_bit] at h1 h2
  have := Nat.testBit_and z c i
  rw [e, h1, h2] at this
  simp at this
theorem blL_same {L : List Int} {c : Nat} {ts os : List Tu} (hl : ts.length ≤ 100) {i j z : Nat} (ez : labAt L j = (z : Int)) (hc : reads (c : Int) i = true) : stF 4 L Stt.nil ts i j = stF 4 L Stt.nil (blL L c ts os ts.length) i j := by
  refine blind_law (P := inC L c) (fun j => Classical.em _) (blL_alk _) hl ?_
  cases hr : reads (z : Int) i with
  | true => exact .inl (inC_of ez hr hc)
  | false => exact .inr (by rw [ez]; exact hr)
end Plain
/-- Turns in a row that is written. -/
def BI (B : Nat) (W : World) (pb : Option Addr) (N : Nat) (bs : List Plain.Tu) : Prop :=
  0 < N → ∃ g M f, pb = some ⟨g, 0, none⟩ ∧ B ≤ g ∧ W.rowIs g 44 M f ∧ N * 6 ≤ M ∧ ∀ j q, j < N → q < 6 → f (j * 6 + q) = tuF (bs.getD j default) q
theorem encT_at (l : List Plain.Tu) {j q : Nat} (h : j < l.length) (hq : q < 6) : (encT.vals l)[j * 6 + q]? = some (tuF (l.getD j default) q) := by
  have := encT.vals_at default l j q h hq
  rw [show j * encT.n + q = j * 6 + q from rfl] at this
  rw [this]
  have : q = 0 ∨ q = 1 ∨ q = 2 ∨ q = 3 ∨ q = 4 ∨ q = 5 := by omega
  rcases this with rfl | rfl | rfl | rfl | rfl | rfl <;> rfl
theorem TI.bi {w W : World} {p : Option Addr} {c : Nat} {ts : List Plain.Tu} {N : Nat} (h : TI w W (.slice p N c) ts) (hN : N = ts.length) : BI w.heap.size W p N ts := fun h0 => by
  subst hN
  rcases h.ow.2 with ⟨_, h1⟩ | ⟨g, cap, cur, e, hg, hb, h1, h2, h3, h4⟩
  · omega
  · rw [Value.slice.injEq] at e
    obtain ⟨rfl, _, rfl⟩ := e
    refine ⟨g, cur.size, fun j => cur.getD j undef, rfl, hg, ⟨cur, hb, rfl, fun i hi => by simp [hi]⟩, by omega, fun j q hj hq => ?_⟩
    have h5 : (cur.toList.take (ts.length * 6))[j * 6 + q]? = some (tuF (ts.getD j default) q) := by rw [h4]; exact encT_at ts hj hq
    rw [List.getElem?_take, if_pos (by omega), Array.getElem?_toList] at h5
    show cur.getD (j * 6 + q) undef = _
    rw [Array.getD_eq_getD_getElem?, h5]
    rfl
theorem BI.holds {B : Nat} {W : World} {pb : Option Addr} {N : Nat} {bs cs : List Plain.Tu} (h : BI B W pb N bs) (hl : cs.length = N) (he : ∀ i, i < N → bs.getD i default = cs.getD i default) : encT.Holds W pb cs := fun h0 => by
  obtain ⟨g, M, f, rfl, _, hr, hM, hf⟩ := h (by omega)
  refine ⟨g, 0, rfl, hr.lt, fun j u hu => ?_⟩
  have hj : j < cs.length * 6 := by
    rcases Nat.lt_or_ge j (cs.length * 6) with h1 | h1
    · exact h1
    · rw [List.getElem?_eq_none (by rw [encT.vals_len]; exact h1)] at hu; cases hu
  have hd : j / 6 < cs.length := by omega
  have hm : j % 6 < 6 := Nat.mod_lt _ (by decide)
  have e := encT_at cs hd hm
  rw [show j / 6 * 6 + j % 6 = j by omega] at e
  rw [e] at hu
  injection hu with hu
  rw [Nat.zero_add, hr.cell (i := j) (by omega), ← hu]
  have := hf (j / 6) (j % 6) (by omega) hm
  rw [show j / 6 * 6 + j % 6 = j by omega] at this
  rw [this, he (j / 6) (by omega)]
end Go.Proofs.Ytiolkeghgodggak
