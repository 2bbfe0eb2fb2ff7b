/-
  Slots and records of entries, plain.
-/
import Derived.Test.YtkmnofmhjoehiamQ6
import Derived.Test.YtkmnofmhjoehiamEp
namespace Go.Proofs.Ytkmnofmhjoehiam
namespace Plain
/-- An entry's slot. -/
def slotN (e : En) : Nat := 8589934592 + (if e.gone = true then 4294967296 else 0) + e.value.toNat * 16777216 + e.time.toNat * 8 + e.who.toNat
/-- An entry has room. -/
def fitE (e : En) : Bool := decide (e.key < 8) && decide (e.value ≤ 255)
def slotAt (l : List En) (k : Nat) : Nat := match look k l with
  | some e => slotN e
  | none => 0
def slotsL (l : List En) : List Int := (List.range 8).map fun k => ((slotAt l k : Nat) : Int)
theorem slotsL_len (l : List En) : (slotsL l).length = 8 := by simp [slotsL]
theorem slotsL_at (l : List En) {k : Nat} (h : k < 8) : (slotsL l).getD k 0 = ((slotAt l k : Nat) : Int) := by simp [slotsL, h]
theorem may_e {e : En} (h : mayB e = true) : (0 ≤ e.key ∧ e.key ≤ 1048576) ∧ (0 ≤ e.value ∧ e.value ≤ 1048576) ∧ (0 ≤ e.time ∧ e.time ≤ 1048576) ∧ (0 ≤ e.who ∧ e.who < 8) ∧ (e.gone = true → e.value = 0) := by
  unfold mayB at h
  exact of_decide_eq_true h
theorem fit_e {e : En} (h : fitE e = true) : e.key < 8 ∧ e.value ≤ 255 := by
  unfold fitE at h
  simpa using h
theorem slot_lt {e : En} (h : mayB e = true) (hf : fitE e = true) : slotN e < 17179869184 := by
  have h1 := may_e h
  have h2 := fit_e hf
  unfold slotN
  split <;> omega
theorem slotAt_lt {l : List En} (h : ∀ e ∈ l, mayB e = true) (hf : ∀ e ∈ l, fitE e = true) (k : Nat) : slotAt l k < 17179869184 := by
  unfold slotAt
  cases hl : look k l with
  | none => simp
  | some e => exact slot_lt (h e (look_key hl).2) (hf e (look_key hl).2)
/-- The slots of some of the lists. -/
def flatS (st : List (List En)) (js : List Nat) : List Int := js.flatMap fun i => slotsL (st.getD i [])
theorem flatS_len (st : List (List En)) (js : List Nat) : (flatS st js).length = js.length * 8 := by
  induction js with
  | nil => rfl
  | cons j js ih =>
    have : flatS st (j :: js) = slotsL (st.getD j []) ++ flatS st js := rfl
    rw [this, List.length_append, ih, slotsL_len, List.length_cons]
    omega
theorem flatS_snoc (st : List (List En)) (js : List Nat) (j : Nat) : flatS st (js ++ [j]) = flatS st js ++ slotsL (st.getD j []) := by simp [flatS]
def roomB (st : List (List En)) (js : List Nat) : Bool := js.all fun i => (st.getD i []).all fitE
/-- Slots of 34 bits are packed. -/
theorem pack34 {vs : List Int} (hl : vs.length ≤ 32) (h : ∀ v ∈ vs, 0 ≤ v ∧ v < 17179869184) :
    packE (fldL 34 vs) = 0 ∧ packB (fldL 34 vs) = bytesOf (rbits ((fldL 34 vs).map nat2)) ((34 * vs.length + 7) / 8) := by
  have hw : (fldL 34 vs).map Prod.fst = List.replicate vs.length 34 := by
    unfold fldL
    rw [List.map_map]
    induction vs with
    | nil => rfl
    | cons v vs ih =>
      rw [List.map_cons, ih (by simp at hl; omega) (fun x hx => h x (List.mem_cons_of_mem _ hx)), List.length_cons, List.replicate_succ]
      rfl
  have ha : (List.replicate vs.length (34 : Int)).all okW = true := by
    rw [List.all_eq_true]
    intro x hx
    rw [List.eq_of_mem_replicate hx]
    rfl
  have hz := sz_yes (List.replicate vs.length 34) (by rw [List.length_replicate]; omega) ha
  have hf : (fldL 34 vs).all fitB = true := by
    rw [List.all_eq_true]
    intro f hf
    obtain ⟨v, hv, rfl⟩ := List.mem_map.1 hf
    have := h v hv
    unfold fitB
    simp only [Bool.and_eq_true, decide_eq_true_eq]
    refine ⟨this.1, ?_⟩
    have e : (2 : Int) ^ (34 : Int).toNat = 17179869184 := by decide
    rw [e]
    exact this.2
  have hb : bitsN (List.replicate vs.length (34 : Int)) = 34 * vs.length := by
    unfold bitsN
    rw [List.map_replicate, List.sum_replicate_nat]
    show vs.length * 34 = _
    omega
  obtain ⟨h1, h2⟩ := packE_ok (fldL 34 vs) (by rw [hw]; exact hz.1) hf
  exact ⟨h1, by rw [h2, hw, hz.2, hb]⟩
end Plain
end Go.Proofs.Ytkmnofmhjoehiam
