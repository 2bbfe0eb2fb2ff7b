/-
  slices.Insert at entries where there is no room: a new row.
-/
import Derived.Test.YtiolkeghgodggakIn
namespace Go.Proofs.Ytiolkeghgodggak
open Go.RowKit

theorem splice_len (cur : List Value) (o : Nat) (cs : List Value) (h : o + cs.length ≤ cur.length) : (cur.take o ++ cs ++ cur.drop (o + cs.length)).length = cur.length := by
  simp only [List.length_append, List.length_take, List.length_drop]
  omega
theorem put_len5 (l : List Plain.En) (x : Plain.En) (i : Nat) (hi : i ≤ l.length) : (l.take i ++ x :: l.drop i).length = l.length + 1 := by
  simp only [List.length_append, List.length_cons, List.length_take, List.length_drop]
  omega

set_option maxHeartbeats 4000000 in
set_option maxRecDepth 100000 in
theorem insert_grow (g n i vb B : Nat) (l : List Plain.En) (x : Plain.En) (w : World) (hn : l.length = n) (hi : i < n) (hl : n ≤ 1000) (hB : B ≤ w.heap.size) (h : OwnN w B 46 (.slice (some ⟨g, 0, none⟩) n n) l) (hv : w.heap[vb]? = some (boxE x)) :
    Calls Try.prog 61 #[.slice (some ⟨g, 0, none⟩) n n, .int .i64 i, .slice (some ⟨vb, 0, none⟩) 1 1] w fun e w' =>
      ∃ v', e = .returned v' ∧ OwnN w' B 46 v' (l.take i ++ x :: l.drop i) ∧ Below B w w' := by
  obtain ⟨i0, hi0, hz0, hz1, hz2⟩ := info_parts Try.infoEntry
  have hcs := h.cells.vals
  simp only [Nat.zero_add] at hcs
  have hgw : g < w.heap.size := h.seg.2 ⟨g, 0, none⟩ _ _ rfl (by omega)
  have hvw : vb < w.heap.size := (Array.getElem?_eq_some_iff.1 hv).1
  have hti : (evals (l.take i)).length = i * 5 := by rw [evals_len, List.length_take]; omega
  have hdi : (evals (l.drop i)).length = (n - i) * 5 := by rw [evals_len, List.length_drop, hn]
  have hold : (Builtin.firstCells i0.size i (.slice (some ⟨g, 0, none⟩) i n)).run Try.prog w.drew = .ok (evals (l.take i)).toArray w.drew := by
    rw [hz1]
    exact run_firstCells_some w.drew 5 i ⟨g, 0, none⟩ i n (evals (l.take i)) hti (fun j v hj => by
      rw [add_zero_at]
      refine hcs j v ?_
      rw [← (evals_split l i (by omega)).1, List.getElem?_take] at hj
      split at hj
      · exact hj
      · cases hj)
  obtain ⟨G, hG⟩ : ∃ G, G = grownCap w (n + 1) n 46 := ⟨_, rfl⟩
  have hGn : n + 1 ≤ G := by rw [hG]; exact grownCap_ge w _ _ _
  have hG63 : G ≤ maxLen := by rw [hG]; exact grownCap_le_maxLen w (n + 1) n 46 (by unfold maxLen; omega)
  obtain ⟨z, hz⟩ : ∃ z : Value, z = .agg #[.int .i64 0, .int .i64 0, .int .i64 0, .int .i64 0, .bool false] := ⟨_, rfl⟩
  have hzc : z.cells.size = 5 := by rw [hz]; rfl
  rw [← hz] at hz0
  obtain ⟨ROW, hROW⟩ : ∃ ROW : Array Value, ROW = (evals (l.take i)).toArray ++ Builtin.zeroCells z.cells (n + 1 - i) ++ Builtin.zeroCells z.cells (G - (n + 1)) := ⟨_, rfl⟩
  have hRs : ROW.size = G * 5 := by
    rw [hROW]
    simp [Builtin.zeroCells, hzc, hti]
    omega
  have hRt : ROW.toList.take (i * 5) = evals (l.take i) := by
    rw [hROW]
    simp only [Array.toList_append, List.append_assoc]
    rw [List.take_append_of_le_length (by omega), List.take_of_length_le (by omega)]
  obtain ⟨W1, hW1⟩ : ∃ W1, W1 = w.drew.alloc (.cells ROW 46) := ⟨_, rfl⟩
  have hrz : ∀ ty, (Builtin.append_ #[39, 3] ty #[.slice (some ⟨g, 0, none⟩) i n, .int .i64 ((n : Int) + 1 - (i : Int))]).run Try.prog w = .ok (.slice (some ⟨w.heap.size, 0, none⟩) (n + 1) G) W1 := fun ty => by
    have hk := Lib.run_append_grow_zeros w 39 3 ty 46 i0 z .i64 .i64 Try.underlying39 Try.underlying3 hi0 hz0 (some ⟨g, 0, none⟩) i n (evals (l.take i)) hold (n + 1 - i) (by omega) (by omega) (by omega) (by omega) (by rw [hz2]; omega) (by rw [hz2, show i + (n + 1 - i) = n + 1 by omega]; exact growslice_fits (by omega) (by omega))
    rw [show i + (n + 1 - i) = n + 1 by omega, ← hG, ← hROW, ← hW1] at hk
    rw [show (n : Int) + 1 - (i : Int) = ((n + 1 - i : Nat) : Int) by omega]
    exact hk
  have hb1 : W1.heap[w.heap.size]? = some (.cells ROW 46 (0, 0)) := by rw [hW1]; exact Deep.blk_alloc_new w.drew _
  have hbel1 : Below w.heap.size w W1 := by rw [hW1]; exact ((Below.refl _ _).drew).alloc (Nat.le_refl _) _
  obtain ⟨R1, hR1⟩ : ∃ R1 : Array Value, R1 = (ROW.toList.take (i * 5) ++ encE x ++ ROW.toList.drop (i * 5 + 5)).toArray := ⟨_, rfl⟩
  obtain ⟨W2, hW2⟩ : ∃ W2, W2 = W1.setRow w.heap.size R1 := ⟨_, rfl⟩
  have hcpA : ∀ ty dc, (Builtin.copy_ #[39, 39] ty #[.slice (some ⟨w.heap.size, i * 5, none⟩) (n + 1 - i) dc, .slice (some ⟨vb, 0, none⟩) 1 1]).run Try.prog W1 = .ok (goInt 1) W2 := fun ty dc => by
    have hm : Nat.min 1 (n + 1 - i) = 1 := Nat.min_eq_left (by omega)
    have := run_copy_rowK (P := Try.prog) W1 39 39 ty 46 w.heap.size (i * 5) (n + 1 - i) dc ⟨vb, 0, none⟩ 1 1 5 ROW 46 (encE x) Try.underlying39 Try.sizeEntry hb1 (by rw [hm, encE_len]) (box_vals ((hbel1.block vb hvw).trans hv)) (by rw [encE_len, hRs]; omega) (encE_one x)
    rw [hm, encE_len, ← hR1, ← hW2] at this
    exact this
  have hR1s : R1.size = G * 5 := by
    rw [hR1]
    have := splice_len ROW.toList (i * 5) (encE x) (by rw [encE_len, Array.length_toList, hRs]; omega)
    rw [encE_len] at this
    simpa [hRs] using this
  have hb2 : W2.heap[w.heap.size]? = some (.cells R1 46 (0, 0)) := by rw [hW2]; exact setRow_heap W1 w.heap.size _ _ 46 _ hb1
  have hbel2 : Below w.heap.size w W2 := by rw [hW2]; exact below_setRow hbel1 (Nat.le_refl _) _
  obtain ⟨R2, hR2⟩ : ∃ R2 : Array Value, R2 = (R1.toList.take ((i + 1) * 5) ++ evals (l.drop i) ++ R1.toList.drop ((i + 1) * 5 + (n - i) * 5)).toArray := ⟨_, rfl⟩
  obtain ⟨W3, hW3⟩ : ∃ W3, W3 = W2.drew.setRow w.heap.size R2 := ⟨_, rfl⟩
  have hcpB : ∀ ty dc sc, (Builtin.copy_ #[39, 39] ty #[.slice (some ⟨w.heap.size, (i + 1) * 5, none⟩) (n - i) dc, .slice (some ⟨g, i * 5, none⟩) (n - i) sc]).run Try.prog W2.drew = .ok (goInt ((n - i : Nat) : Int)) W3 := fun ty dc sc => by
    have hm : Nat.min (n - i) (n - i) = n - i := Nat.min_self _
    have := run_copy_rowK (P := Try.prog) W2.drew 39 39 ty 46 w.heap.size ((i + 1) * 5) (n - i) dc ⟨g, i * 5, none⟩ (n - i) sc 5 R1 46 (evals (l.drop i)) Try.underlying39 Try.sizeEntry hb2 (by rw [hm, hdi]) (fun j v hj => by
      rw [addr_add]
      show W2.cell? _ = _
      rw [hbel2.cell (p := ⟨g, i * 5 + j, none⟩) hgw]
      refine hcs _ v ?_
      rw [← (evals_split l i (by omega)).2, List.getElem?_drop] at hj
      exact hj) (by rw [hdi, hR1s]; omega) (evals_one _)
    rw [hm, hdi, ← hR2, ← hW3] at this
    exact this
  have R := hid (show OwnN W3 B 46 (.slice (some ⟨w.heap.size, 0, none⟩) (n + 1) G) (l.take i ++ x :: l.drop i) by
    have hlen := put_len5 l x i (by omega)
    rw [hn] at hlen
    have key := OwnN.mk (w := W3) (T := 46) (cap := G) (l := l.take i ++ x :: l.drop i) hB (cur := R2) (by rw [hW3]; exact setRow_heap W2.drew w.heap.size _ _ 46 _ hb2) (by omega) hG63 (by
      rw [hR2]
      have := splice_len R1.toList ((i + 1) * 5) (evals (l.drop i)) (by rw [hdi, Array.length_toList, hR1s]; omega)
      rw [hdi] at this
      simpa [hR1s] using this) (by
      rw [hlen, hR2, hR1]
      have := put_row ROW l x i (by omega) (by rw [hRs, hn]; omega) hRt
      rw [hn] at this
      exact this)
    rw [hlen] at key
    exact key)
  have RB := hid (show Below B w W3 by rw [hW3]; exact below_setRow ((hbel2.mono hB).drew) hB _)
  clear hW3 hR2 hb2 hbel2 hW2 hR1 hR1s hb1 hbel1 hW1 hRt hRs hROW hG hold hcs hti hdi h hv hz hzc hz0 hz1 hz2 hi0
  have hG63' : G ≤ 9223372036854775807 := by unfold maxLen at hG63; exact hG63
  clear hG63
  have hi1 : (i : Int) < (n : Int) := by omega
  have hi2 : ¬ (i : Int) = (n : Int) := by omega
  have hroom : (n : Int) < (n : Int) + 1 := by omega
  have hb3 : (i : Int) ≤ (n : Int) := by omega
  have hin : i ≤ n := by omega
  have hni : ¬ n = i := by omega
  have hGi : ¬ G = i := by omega
  have hGi1 : ¬ G = i + 1 := by omega
  have hw1 : IntKind.i64.wrap ((i : Int) + 1) = (i : Int) + 1 := by rw [IntKind.wrap_i64]; omega
  have hp1 : (0 : Int) ≤ (i : Int) + 1 := by omega
  have htn : ((i : Int) + 1).toNat = i + 1 := by omega
  have hi4 : (i : Int) + 1 ≤ (n : Int) + 1 := by omega
  have mixed : Try.prog.follows .mixedOrders = true := by kernel_rfl
  go_enter Try.func61, Try.ntmps61
  go_wp2_with (first
    | (at_builtin; refine Lib.wpList_append_run _ rfl _ _ _ _ rfl _ _ rfl rfl _ _ (hrz _) ?_)
    | (at_builtin; refine wpList_copyK _ rfl _ _ 39 39 rfl _ _ rfl rfl (hcpA _ _) ?_))
  go_region_law (refine step_copyK rfl _ _ 39 39 rfl (.slice (some ⟨w.heap.size, (i + 1) * 5, none⟩) (n - i) (G - (i + 1))) (.slice (some ⟨g, i * 5, none⟩) (n - i) (n - i)) (by simp [Act.eval, Act.put]) (by simp [Act.eval, Act.put]) (hcpB _ _ _) ?_)
  go_wp2
  go_ret
  exact ⟨_, rfl, R.out, RB.out⟩
end Go.Proofs.Ytiolkeghgodggak
