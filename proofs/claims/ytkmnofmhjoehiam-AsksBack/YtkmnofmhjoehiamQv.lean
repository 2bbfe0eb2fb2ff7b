/-
  Numbers come back from their record, plain.
-/
import Derived.Test.YtkmnofmhjoehiamQ7
namespace Go.Proofs.Ytkmnofmhjoehiam
namespace Plain
theorem nat2_lt (l : List (Int × Int)) (h : l.all fitB = true) : ∀ f ∈ l.map nat2, f.2 < 2 ^ f.1 := by
  intro f hf
  obtain ⟨g, hg, rfl⟩ := List.mem_map.1 hf
  have := List.all_eq_true.1 h g hg
  unfold fitB at this
  simp only [Bool.and_eq_true, decide_eq_true_eq] at this
  obtain ⟨h1, h2⟩ := this
  have e : ((2 : Int) ^ g.1.toNat) = ((2 ^ g.1.toNat : Nat) : Int) := by simp
  rw [e] at h2
  unfold nat2
  simp only
  omega
theorem fit_nn (l : List (Int × Int)) (h : l.all fitB = true) : ∀ f ∈ l, 0 ≤ f.2 := by
  intro f hf
  have := List.all_eq_true.1 h f hf
  unfold fitB at this
  simp only [Bool.and_eq_true, decide_eq_true_eq] at this
  exact this.1
theorem back (l : List (Int × Int)) (hz : szE (l.map Prod.fst) = 0) (ha : l.all fitB = true) : unpackE (l.map Prod.fst) (packB l) = 0 ∧ unpackI (l.map Prod.fst) (packB l) = l.map Prod.snd := by
  have hp := packE_ok l hz ha
  have hs := szE_zero _ hz
  have hl : (packB l).length = szN (l.map Prod.fst) := by rw [hp.2, bytesOf_len]
  have hlt := at0_lt _ (rbits_lt (l.map nat2))
  have hbit : ∀ p, p < 8 * szN (l.map Prod.fst) → bitOf (packB l) p = at0 (rbits (l.map nat2)) p := by
    intro p h
    rw [hp.2]
    exact bitOf_bytesOf _ hlt _ p h
  have hx : num (bitOf (packB l)) (bitsN (l.map Prod.fst)) (8 * szN (l.map Prod.fst) - bitsN (l.map Prod.fst)) = 0 := by
    rw [num_zero]
    intro i hi
    rw [hbit _ (by omega), at0_out]
    rw [pk_len]; omega
  have h := un_ok (l.map Prod.fst) (packB l) hz hl hx
  refine ⟨h.1, ?_⟩
  rw [h.2]
  have e1 : vals (bitOf (packB l)) 0 ((l.map Prod.fst).map Int.toNat) = vals (at0 (rbits (l.map nat2))) 0 ((l.map Prod.fst).map Int.toNat) := by
    apply vals_congr
    intro p hp'
    apply hbit
    have : ((l.map Prod.fst).map Int.toNat).sum = bitsN (l.map Prod.fst) := rfl
    omega
  have e2 := vals_rbits (l.map nat2) (nat2_lt l ha) [] []
  have e3 : (l.map nat2).map Prod.fst = (l.map Prod.fst).map Int.toNat := by simp [nat2, Function.comp_def]
  rw [List.nil_append, List.append_nil, e3, List.length_nil] at e2
  rw [e1, e2, List.map_map, List.map_map]
  apply List.map_congr_left
  intro f hf
  have := fit_nn l ha f hf
  simp only [Function.comp, nat2]
  omega

theorem fld21 (l : List Int) : (fldL 21 l).map Prod.fst = List.replicate l.length 21 ∧ (fldL 21 l).map Prod.snd = l := by
  unfold fldL
  rw [List.map_map, List.map_map]
  induction l with
  | nil => exact ⟨rfl, rfl⟩
  | cons v l ih =>
    refine ⟨?_, ?_⟩
    · rw [List.map_cons, ih.1, List.length_cons, List.replicate_succ]; rfl
    · rw [List.map_cons, ih.2]; rfl
/-- What was asked is told back. -/
theorem asks_back {c : Cf} {l : List Int} (h : mayC c = true) (h1 : l.length = c.ms.length) (h2 : l.all cntB = true) :
    asksE c l = 0 ∧ askE c (asksB c l) = 0 ∧ askV c (asksB c l) = l ∧ (asksB c l).length = (21 * l.length + 7) / 8 := by
  have h3 := (may_all h).2.2.2.2.1
  have hall : (List.replicate l.length (21 : Int)).all okW = true := by
    rw [List.all_eq_true]
    intro x hx
    rw [List.eq_of_mem_replicate hx]
    rfl
  have hb : bitsN (List.replicate l.length (21 : Int)) = 21 * l.length := by
    unfold bitsN
    rw [List.map_replicate, List.sum_replicate_nat]
    show l.length * 21 = _
    omega
  have hz := sz_yes (List.replicate l.length (21 : Int)) (by rw [List.length_replicate]; omega) hall
  have hf : (fldL 21 l).all fitB = true := by
    rw [List.all_eq_true]
    intro f hf
    obtain ⟨v, hv, rfl⟩ := List.mem_map.1 hf
    have := (inR_iff v 0 1048576).1 (List.all_eq_true.1 h2 v hv)
    unfold fitB
    simp only [Bool.and_eq_true, decide_eq_true_eq]
    refine ⟨this.1, ?_⟩
    have e : (2 : Int) ^ (21 : Int).toNat = 2097152 := by decide
    rw [e]
    omega
  have hp := packE_ok (fldL 21 l) (by rw [(fld21 l).1]; exact hz.1) hf
  have hbk := back (fldL 21 l) (by rw [(fld21 l).1]; exact hz.1) hf
  rw [(fld21 l).1, (fld21 l).2] at hbk
  have ho := asks_ok h h1 h2
  have hk := ask_ok (b := packB (fldL 21 l)) h (by rw [← h1]; exact hbk.1) (by rw [← h1, hbk.2]; exact h2)
  rw [ho.2]
  refine ⟨by rw [ho.1]; exact hp.1, hk.1, by rw [hk.2, ← h1]; exact hbk.2, ?_⟩
  rw [hp.2, bytesOf_len, (fld21 l).1, hz.2, hb]
theorem packB_lt (l : List (Int × Int)) : ∀ x ∈ packB l, x < 256 := by
  intro x hx
  unfold packB at hx
  split at hx
  · simp only [bytesOf, List.mem_map] at hx
    obtain ⟨j, _, rfl⟩ := hx
    exact byteOf_lt _ (at0_lt _ (rbits_lt _)) j
  · simp at hx
theorem asksB_lt (c : Cf) (l : List Int) : ∀ x ∈ asksB c l, x < 256 := by
  intro x hx
  unfold asksB at hx
  split at hx
  · split at hx
    · split at hx
      · exact packB_lt _ x hx
      · simp at hx
    · simp at hx
  · simp at hx
/-- Two records are the same just if the numbers are. -/
theorem asks_inj {c : Cf} {l m : List Int} (h : mayC c = true) (h1 : l.length = c.ms.length) (h2 : l.all cntB = true) (h3 : m.length = c.ms.length) (h4 : m.all cntB = true) : decide (asksB c l = asksB c m) = decide (l = m) := by
  rw [Bool.eq_iff_iff, decide_eq_true_iff, decide_eq_true_iff]
  constructor
  · intro e
    rw [← (asks_back h h1 h2).2.2.1, ← (asks_back h h3 h4).2.2.1, e]
  · intro e; rw [e]
end Plain
end Go.Proofs.Ytkmnofmhjoehiam
