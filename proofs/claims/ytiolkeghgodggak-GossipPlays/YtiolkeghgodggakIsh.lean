/-
  slices.Insert at entries where there is room: in place; and at whatever row.
-/
import Derived.Test.YtiolkeghgodggakIg
namespace Go.Proofs.Ytiolkeghgodggak
open Go.RowKit

theorem put_row2 (cur : List Value) (l : List Plain.En) (x : Plain.En) (i : Nat) (hi : i < l.length) (hs : (l.length + 1) * 5 ≤ cur.length) (ht : cur.take (l.length * 5) = evals l) (R1 : List Value)
    (hR : R1 = cur.take ((i + 1) * 5) ++ evals (l.drop i) ++ cur.drop ((i + 1) * 5 + (l.length - i) * 5)) :
    (R1.take (i * 5) ++ encE x ++ R1.drop (i * 5 + 5)).take ((l.length + 1) * 5) = evals (l.take i ++ x :: l.drop i) := by
  have h1 : (cur.take ((i + 1) * 5)).length = (i + 1) * 5 := by rw [List.length_take]; omega
  have h4 : (evals (l.drop i)).length = (l.length - i) * 5 := by rw [evals_len, List.length_drop]
  have e1 : R1.take (i * 5) = evals (l.take i) := by
    rw [hR, List.append_assoc, List.take_append_of_le_length (by omega), List.take_take, Nat.min_eq_left (by omega), ← (evals_split l i (by omega)).1, ← ht, List.take_take, Nat.min_eq_left (by omega)]
  have e2 : R1.drop (i * 5 + 5) = evals (l.drop i) ++ cur.drop ((i + 1) * 5 + (l.length - i) * 5) := by
    rw [hR, List.append_assoc, List.drop_append_of_le_length (by omega), List.drop_of_length_le (by omega), List.nil_append]
  have h5 : (evals (l.take i)).length = i * 5 := by rw [evals_len, List.length_take]; omega
  rw [e1, e2, ← List.append_assoc, List.take_append_of_le_length (by rw [List.length_append, List.length_append, h5, h4, encE_len]; omega), List.take_of_length_le (by rw [List.length_append, List.length_append, h5, h4, encE_len]; omega), evals_app, evals_cons, List.append_assoc]

set_option maxHeartbeats 4000000 in
set_option maxRecDepth 100000 in
theorem insert_shift (g n c i vb B : Nat) (l : List Plain.En) (x : Plain.En) (w : World) (hn : l.length = n) (hi : i < n) (hl : n ≤ 1000) (hroom : n + 1 ≤ c) (_hB : B ≤ w.heap.size) (h : OwnN w B 46 (.slice (some ⟨g, 0, none⟩) n c) l) (hv : w.heap[vb]? = some (boxE x)) (hne : vb ≠ g) :
    Calls Try.prog 61 #[.slice (some ⟨g, 0, none⟩) n c, .int .i64 i, .slice (some ⟨vb, 0, none⟩) 1 1] w fun e w' =>
      ∃ v', e = .returned v' ∧ OwnN w' B 46 v' (l.take i ++ x :: l.drop i) ∧ Below B w w' := by
  have hcs := h.cells.vals
  simp only [Nat.zero_add] at hcs
  obtain ⟨g', c', cur, e, hBg, hb, _, hm, hs, ht⟩ := h.row (by omega)
  simp only [Value.slice.injEq, Option.some.injEq, Addr.mk.injEq, and_true] at e
  obtain ⟨rfl, hnl, rfl⟩ := e
  clear hnl
  have hdi : (evals (l.drop i)).length = (n - i) * 5 := by rw [evals_len, List.length_drop, hn]
  have hov : ∀ lb cb, (callFunc 64 #[.slice (some ⟨vb, 0, none⟩) 1 1, .slice (some ⟨g, (i + 1) * 5, none⟩) lb cb]).run Try.prog w = .ok (.value (.bool false)) w := fun lb cb => by
    rw [run_callFunc_extern Try.func64 (by kernel_rfl) (by kernel_rfl) (by kernel_rfl) (e := Extern.SlicesOverlaps.overlaps #[39, 39] #[4]) (by kernel_rfl),
      Lib.run_overlaps_apart w 39 4 46 Try.underlying39 5 Try.sizeOf46 ⟨vb, 0, none⟩ ⟨g, (i + 1) * 5, none⟩ 1 1 lb cb hne 46 46 5 (c * 5) (by simp [World.shape?, hv]) (by simp [World.shape?, hb, hs]) (by omega) (by simp [World.frozen?, hv]) (by simp [World.frozen?, hv])]
    rfl
  obtain ⟨R1, hR1⟩ : ∃ R1 : Array Value, R1 = (cur.toList.take ((i + 1) * 5) ++ evals (l.drop i) ++ cur.toList.drop ((i + 1) * 5 + (n - i) * 5)).toArray := ⟨_, rfl⟩
  obtain ⟨W2, hW2⟩ : ∃ W2, W2 = w.drew.setRow g R1 := ⟨_, rfl⟩
  have hcp1 : ∀ ty dc sc, (Builtin.copy_ #[39, 39] ty #[.slice (some ⟨g, (i + 1) * 5, none⟩) (n - i) dc, .slice (some ⟨g, i * 5, none⟩) (n + 1 - i) sc]).run Try.prog w.drew = .ok (goInt ((n - i : Nat) : Int)) W2 := fun ty dc sc => by
    have hmn : Nat.min (n + 1 - i) (n - i) = n - i := Nat.min_eq_right (by omega)
    have := run_copy_rowK (P := Try.prog) w.drew 39 39 ty 46 g ((i + 1) * 5) (n - i) dc ⟨g, i * 5, none⟩ (n + 1 - i) sc 5 cur 46 (evals (l.drop i)) Try.underlying39 Try.sizeEntry hb (by rw [hmn, hdi]) (fun j v hj => by
      rw [addr_add]
      refine hcs _ v ?_
      rw [← (evals_split l i (by omega)).2, List.getElem?_drop] at hj
      exact hj) (by rw [hdi, hs]; omega) (evals_one _)
    rw [hmn, hdi, ← hR1, ← hW2] at this
    exact this
  have hR1s : R1.size = c * 5 := by
    rw [hR1]
    have := splice_len cur.toList ((i + 1) * 5) (evals (l.drop i)) (by rw [hdi, Array.length_toList, hs]; omega)
    rw [hdi] at this
    simpa [hs] using this
  have hb2 : W2.heap[g]? = some (.cells R1 46 (0, 0)) := by rw [hW2]; exact setRow_heap w.drew g _ _ 46 _ hb
  have hv2 : W2.heap[vb]? = some (boxE x) := by rw [hW2]; exact (setRow_other w.drew g vb _ hne).trans hv
  have hbel2 : Below B w W2 := by rw [hW2]; exact below_setRow ((Below.refl _ _).drew) hBg _
  obtain ⟨R2, hR2⟩ : ∃ R2 : Array Value, R2 = (R1.toList.take (i * 5) ++ encE x ++ R1.toList.drop (i * 5 + 5)).toArray := ⟨_, rfl⟩
  obtain ⟨W3, hW3⟩ : ∃ W3, W3 = W2.setRow g R2 := ⟨_, rfl⟩
  have hcp2 : ∀ ty dc, (Builtin.copy_ #[39, 39] ty #[.slice (some ⟨g, i * 5, none⟩) (n + 1 - i) dc, .slice (some ⟨vb, 0, none⟩) 1 1]).run Try.prog W2 = .ok (goInt 1) W3 := fun ty dc => by
    have hmn : Nat.min 1 (n + 1 - i) = 1 := Nat.min_eq_left (by omega)
    have := run_copy_rowK (P := Try.prog) W2 39 39 ty 46 g (i * 5) (n + 1 - i) dc ⟨vb, 0, none⟩ 1 1 5 R1 46 (encE x) Try.underlying39 Try.sizeEntry hb2 (by rw [hmn, encE_len]) (box_vals hv2) (by rw [encE_len, hR1s]; omega) (encE_one x)
    rw [hmn, encE_len, ← hR2, ← hW3] at this
    exact this
  have R := hid (show OwnN W3 B 46 (.slice (some ⟨g, 0, none⟩) (n + 1) c) (l.take i ++ x :: l.drop i) by
    have hlen := put_len5 l x i (by omega)
    rw [hn] at hlen
    have key := OwnN.mk (w := W3) (T := 46) (cap := c) (l := l.take i ++ x :: l.drop i) hBg (cur := R2) (by rw [hW3]; exact setRow_heap W2 g _ _ 46 _ hb2) (by omega) hm (by
      rw [hR2]
      have := splice_len R1.toList (i * 5) (encE x) (by rw [encE_len, Array.length_toList, hR1s]; omega)
      rw [encE_len] at this
      simpa [hR1s] using this) (by
      rw [hlen, hR2]
      have := put_row2 cur.toList l x i (by omega) (by have hcl : cur.toList.length = c * 5 := Array.length_toList.trans hs; rw [hcl, hn]; omega) ht R1.toList (by rw [hR1, hn])
      rw [hn] at this
      exact this)
    rw [hlen] at key
    exact key)
  have RB := hid (show Below B w W3 by rw [hW3]; exact below_setRow hbel2 hBg _)
  have hc63 : c ≤ 9223372036854775807 := hm
  clear hW3 hR2 hb2 hv2 hbel2 hW2 hR1 hR1s hcs hdi h hv hb hm hs ht
  have hi1 : (i : Int) < (n : Int) := by omega
  have hi2 : ¬ (i : Int) = (n : Int) := by omega
  have hrm : ¬ (c : Int) < (n : Int) + 1 := by omega
  have hrm' : (n : Int) + 1 ≤ (c : Int) := by omega
  have hb3 : (i : Int) ≤ (n : Int) := by omega
  have hin : i ≤ n := by omega
  have hci : ¬ c = i := by omega
  have hci1 : ¬ c = i + 1 := by omega
  have hw1 : IntKind.i64.wrap ((i : Int) + 1) = (i : Int) + 1 := by rw [IntKind.wrap_i64]; omega
  have hp1 : (0 : Int) ≤ (i : Int) + 1 := by omega
  have hp2 : (0 : Int) ≤ (n : Int) + 1 := by omega
  have htn : ((i : Int) + 1).toNat = i + 1 := by omega
  have htn2 : ((n : Int) + 1).toNat = n + 1 := by omega
  have hi4 : (i : Int) + 1 ≤ (n : Int) + 1 := by omega
  have hi5 : (i : Int) ≤ (n : Int) + 1 := by omega
  have mixed : Try.prog.follows .mixedOrders = true := by kernel_rfl
  go_enter Try.func61, Try.ntmps61
  go_wp2_with (simp only [hov])
  go_region_law (refine step_copyK rfl _ _ 39 39 rfl (.slice (some ⟨g, (i + 1) * 5, none⟩) (n - i) (c - (i + 1))) (.slice (some ⟨g, i * 5, none⟩) (n + 1 - i) (c - i)) (by simp [Act.eval, Act.put]) (by simp [Act.eval, Act.put]) (hcp1 _ _ _) ?_)
  go_wp2_with (at_builtin; refine wpList_copyK _ rfl _ _ 39 39 rfl _ _ rfl rfl (hcp2 _ _) ?_)
  go_ret
  exact ⟨_, rfl, R.out, RB.out⟩

/-- Insert of one entry, at whatever place of whatever row of the call's own. -/
theorem insert_any (v : Value) (i vb B : Nat) (l : List Plain.En) (x : Plain.En) (w : World) (hi : i ≤ l.length) (hl : l.length ≤ 1000) (hB : B ≤ w.heap.size) (h : OwnN w B 46 v l) (hv : w.heap[vb]? = some (boxE x)) (hne : ∀ g n c, v = .slice (some ⟨g, 0, none⟩) n c → vb ≠ g) :
    Calls Try.prog 61 #[v, .int .i64 (i : Nat), .slice (some ⟨vb, 0, none⟩) 1 1] w fun e w' =>
      ∃ v', e = .returned v' ∧ OwnN w' B 46 v' (l.take i ++ x :: l.drop i) ∧ Below B w w' := by
  by_cases he : i = l.length
  · subst he
    have := insert_end v vb B l x w hl hB h hv
    rw [List.take_length, List.drop_length]
    exact this
  · obtain ⟨g, c, rfl, _, _, hc, _⟩ := h.at (by omega)
    by_cases hr : l.length + 1 ≤ c
    · exact insert_shift g l.length c i vb B l x w rfl (by omega) hl hr hB h hv (hne g _ _ rfl)
    · obtain rfl : c = l.length := by omega
      exact insert_grow g l.length i vb B l x w rfl (by omega) hl hB h hv
end Go.Proofs.Ytiolkeghgodggak
