/-
  slices.Repeat of one number.
-/
import Derived.Test.YtiolkeghgodggajY1
import Derived.Laws.Externs
import Derived.Deep.RegionLaw
import Derived.Shelf.RegionOpenPlain
import Derived.Deep.RegionHeld3
namespace Go.Proofs.Ytiolkeghgodggaj.Bo
open Go.RowKit Go.Shelf Go.Sort

theorem wp_known {P : Program} {w w' : World} {o : Oper} {a : Act} {K : Act → World → Prop} {Q : Exit → Act → World → Prop} {v : Value} (hr : (execOp a.eval o).run P w = .ok (.value v) w') (h : K (a.put o.dst v) w') : o.wp P a w K Q := by
  unfold Oper.wp
  rw [hr]
  exact h
theorem exec_copy {P : Program} {w w' : World} {o : Oper} {e : Operand → Value} {d s : Operand} {t t' : TypeId} {x y v : Value} (ho : o.op = .call { callee := .builtin .copy, args := #[d, s], argTypes := #[t, t'] }) (hd : e d = x) (hs : e s = y)
    (hr : (Builtin.copy_ #[t, t'] o.type #[x, y]).run P w = .ok v w') : (execOp e o).run P w = .ok (.value v) w' := by
  simp [execOp, ho, resolve, invoke, builtin, hd, hs, hr]
theorem wpList_copyK {P : Program} (w : World) {ops : Array Oper} {rest : List Oper} {o : Oper} {a : Act} {Q : Exit → Act → World → Prop} (hgd : o.guard = none) (d s : Operand) (t t' : TypeId)
    (ho : o.op = .call { callee := .builtin .copy, args := #[d, s], argTypes := #[t, t'] }) (x y : Value) (hd : a.eval d = x) (hs : a.eval s = y) {v : Value} {w' : World}
    (hr : (Builtin.copy_ #[t, t'] o.type #[x, y]).run P w = .ok v w') (h : wpList P ops Q rest (a.put o.dst v) w') : wpList P ops Q (o :: rest) a w :=
  wpList_plain hgd fun _ hK => wp_known (exec_copy ho hd hs hr) (hK _ _ h)
theorem step_copyK {P : Program} {ops : Array Oper} {o : Oper} {a : Act} {w : World} {K : Act → World → Prop} {Q : Exit → Act → World → Prop} {E : Prop} (hgd : o.guard = none) (d s : Operand) (t t' : TypeId)
    (ho : o.op = .call { callee := .builtin .copy, args := #[d, s], argTypes := #[t, t'] }) (x y : Value) (hd : a.eval d = x) (hs : a.eval s = y) {v : Value} {w' : World}
    (hr : (Builtin.copy_ #[t, t'] o.type #[x, y]).run P w = .ok v w') (h : K (a.put o.dst v) w') : if Region.wanted o (yielded ops a.tmps) = true then o.wp P a w K Q else E := by
  rw [if_pos (by simp [Region.wanted, hgd])]
  exact wp_known (exec_copy ho hd hs hr) h

theorem below_setRow {B : Nat} {w W : World} {g : Nat} (h : Below B w W) (hg : B ≤ g) (row : Array Value) : Below B w (W.setRow g row) :=
  ⟨h.os, h.tape, h.output, by show w.heap.size ≤ (W.heap.modify g _).size; rw [Array.size_modify]; exact h.size, fun k hk => by
    show (W.heap.modify g _)[k]? = _
    rw [Array.getElem?_modify, if_neg (by omega)]
    exact h.block k hk⟩
/-- The first m are the number, the others 0. -/
def repF (x : Int) (m j : Nat) : Value := if j < m then .int .i64 x else .int .i64 0
/-- copy of some that are the number behind the first ones. -/
theorem rep_copy {W : World} {g n m b s sc : Nat} {x : Int} (h : W.rowIs g 3 n (repF x m)) (hm : m < n) (hs : ∀ j, j < s → W.cell? ⟨b, j, none⟩ = some (.int .i64 x)) (k : Nat) (hk : k = min s (n - m)) :
    ∃ W', (∀ ty, (Builtin.copy_ #[29, 29] ty #[.slice (some ⟨g, m, none⟩) (n - m) (n - m), .slice (some ⟨b, 0, none⟩) s sc]).run Try.prog W = .ok (goInt (k : Nat)) W') ∧ W'.rowIs g 3 n (repF x (m + k)) ∧ (∀ B, B ≤ g → Below B W W') := by
  obtain ⟨cur, hb, hn, hc⟩ := h
  have hlen : (List.replicate k (Value.int .i64 x)).length = k := List.length_replicate
  refine ⟨W.setRow g (cur.toList.take m ++ List.replicate k (Value.int .i64 x) ++ cur.toList.drop (m + k)).toArray, fun ty => ?_, ⟨_, setRow_heap W g cur _ 3 _ hb, ?_, fun i hi => ?_⟩, fun B hB => below_setRow (Below.refl _ _) hB _⟩
  · have := run_copy_row (P := Try.prog) W 29 29 ty 3 g m (n - m) (n - m) ⟨b, 0, none⟩ s sc cur 3 (List.replicate k (Value.int .i64 x)) Try.underlying29 (by kernel_rfl) hb
      (by rw [hlen, hk]) (fun j v hj => by
        have hjk : j < k := by
          rcases Nat.lt_or_ge j k with y | y
          · exact y
          · rw [List.getElem?_eq_none (by rw [hlen]; exact y)] at hj; cases hj
        rw [List.getElem?_replicate, if_pos hjk] at hj
        rw [add_at', Nat.zero_add, hs j (by omega), hj]) (by rw [hlen, hn]; omega) (fun v hv => by rw [List.eq_of_mem_replicate hv]; rfl)
    rw [hlen] at this
    exact this
  · simp only [List.size_toArray, List.length_append, List.length_take, List.length_drop, hlen, Array.length_toList, hn]; omega
  · have hm2 : (cur.toList.take m).length = m := by rw [List.length_take, Array.length_toList]; omega
    simp only [List.getElem?_toArray]
    unfold repF at hc ⊢
    by_cases h1 : i < m
    · rw [List.append_assoc, List.getElem?_append_left (by omega), List.getElem?_take, if_pos h1, Array.getElem?_toList, hc i hi, if_pos h1, if_pos (by omega)]
    · by_cases h2 : i < m + k
      · rw [List.getElem?_append_left (by rw [List.length_append, hm2, hlen]; exact h2), List.getElem?_append_right (by omega), hm2, List.getElem?_replicate, if_pos (by omega), if_pos h2]
      · rw [List.getElem?_append_right (by rw [List.length_append, hm2, hlen]; omega), List.length_append, hm2, hlen, List.getElem?_drop, show m + k + (i - (m + k)) = i by omega, Array.getElem?_toList, hc i hi, if_neg h1, if_neg h2]

set_option maxHeartbeats 2000000 in
set_option maxRecDepth 100000 in
theorem repeat_c (bx n : Nat) (x : Int) (h1 : 1 ≤ n) (h8 : n ≤ 8) (w : World) (h : w.cell? ⟨bx, 0, none⟩ = some (.int .i64 x)) :
    Calls Try.prog 42 #[.slice (some ⟨bx, 0, none⟩) 1 1, .int .i64 n] w fun e w' =>
      ∃ g, e = .returned (.slice (some ⟨g, 0, none⟩) n n) ∧ RowI w' g (List.replicate n x) ∧ w.heap.size ≤ g ∧ Below w.heap.size w w' := by
  have hbx := World.block_lt_of_cell? (w := w) (h := h)
  have hmk := run_make_row' (P := Try.prog) 29 3 (.int .i64 0) 8 Try.underlying29 Try.infoInt rfl .i64 .i64 n (by omega) (by omega)
  obtain ⟨W0, hW0⟩ : ∃ W0, W0 = w.alloc (.cells (madeCells #[.int .i64 0] n) 3) := ⟨_, rfl⟩
  have r0 : W0.rowIs w.heap.size 3 n (repF x 0) := by
    rw [hW0]
    exact (World.rowIs_made w (.int .i64 0) n 3).congr fun j _ => by unfold repF; rw [if_neg (by omega)]
  have b0 : Below w.heap.size w W0 := by rw [hW0]; exact (Below.refl _ _).alloc (Nat.le_refl _) _
  obtain ⟨W1, c1, r1, b1⟩ := rep_copy (s := 1) (sc := 1) (b := bx) r0 (by omega) (fun j hj => by
    have : j = 0 := by omega
    subst this
    exact (b0.cell (p := ⟨bx, 0, none⟩) hbx).trans h) 1 (by omega)
  rw [Nat.sub_zero, Nat.zero_add] at *
  have HR1 := hid r1
  have HB1 := hid (b0.trans (b1 w.heap.size (Nat.le_refl _)))
  have K := mul_c n h1 h8 w
  clear b0 b1 r0 r1 h
  have hc0 : IntKind.u64.wrap (1 : Int) = 1 := by decide
  have hcn : IntKind.u64.wrap (n : Int) = (n : Int) := by rw [IntKind.wrap_u64]; omega
  have hci : IntKind.i64.wrap (n : Int) = (n : Int) := by rw [IntKind.wrap_i64]; omega
  have hg1 : ¬ (n : Int) < 0 := by omega
  have hg2 : ¬ (9223372036854775807 : Int) < (n : Int) := by omega
  go_enter Try.func42, Try.ntmps42
  go_wp2_with fail
  refine K.mono ?_
  rintro e wx ⟨rfl, hx⟩
  have hy := hx.symm
  clear hx K
  subst hy
  have hcp : ∀ ty, (Builtin.copy_ #[29, 29] ty #[.slice (some ⟨w.heap.size, 0, none⟩) n n, .slice (some ⟨bx, 0, none⟩) 1 1]).run Try.prog (w.alloc (.cells (madeCells #[.int .i64 0] n) 3)) = .ok (goInt ((1 : Nat) : Int)) W1 := by rw [← hW0]; exact c1
  clear c1 hW0
  go_wp2_with (first | (at_builtin; refine wpList_copyK _ rfl _ _ 29 29 rfl _ _ rfl rfl (hcp _) ?_) | fail)
  clear hmk hcp
  go_loopg [8] n (fun gg s8 wx => ∃ m : Nat, 1 ≤ m ∧ m ≤ n ∧ n - m ≤ gg ∧ s8 = .int .i64 m ∧ Aside (wx.rowIs w.heap.size 3 n (repF x m) ∧ Below w.heap.size w wx))
  case atStart => exact ⟨1, Nat.le_refl _, h1, by omega, rfl, (show Aside _ from ⟨HR1.out, HB1.out⟩)⟩
  case round =>
    obtain ⟨m, hm1, hmn, hg, rfl, A⟩ := hrel
    by_cases hlt : m < n
    · have hltz : (m : Int) < (n : Int) := by omega
      obtain ⟨k, hk⟩ : ∃ k, k = min m (n - m) := ⟨_, rfl⟩
      have rr : wr.drew.rowIs w.heap.size 3 n (repF x m) := A.out.1.of_block rfl
      obtain ⟨W2, c2, r2, b2⟩ := rep_copy (s := m) (sc := n) (b := w.heap.size) rr hlt (fun j hj => by rw [rr.cell (i := j) (by omega)]; unfold repF; rw [if_pos hj]) k hk
      have R2 := hid r2
      have B2 := hid (A.out.2.trans (Below.trans ((Below.refl _ _).drew) (b2 w.heap.size (Nat.le_refl _))))
      have hk1 : 1 ≤ k ∧ k ≤ n - m := by omega
      clear hk r2 b2 rr A
      have hnm : ¬ n = m := by omega
      have hz0 : (0 : Int) ≤ (m : Int) := by omega
      have hz1 : (m : Int) ≤ (n : Int) := by omega
      have hw1 : IntKind.i64.wrap ((m : Int) + (k : Int)) = (m : Int) + (k : Int) := by rw [IntKind.wrap_i64]; omega
      go_wp2
      go_region_law (refine step_copyK rfl _ _ 29 29 rfl (.slice (some ⟨w.heap.size, m, none⟩) (n - m) (n - m)) (.slice (some ⟨w.heap.size, 0, none⟩) m n) (by simp [Act.eval, Act.put]) (by simp [Act.eval, Act.put]) (c2 _) ?_)
      go_wp2
      go_roundg (n - (m + k))
      case measure => omega
      case rel => exact ⟨m + k, by omega, by omega, by omega, by go_num, (show Aside _ from ⟨R2.out, B2.out⟩)⟩
    · have hltz : ¬ (m : Int) < (n : Int) := by omega
      have e : m = n := by omega
      subst e
      go_wp2
      go_ret
      refine ⟨w.heap.size, rfl, RowI.of_rowIs A.out.1 (by simp) fun i hi => ?_, Nat.le_refl _, A.out.2⟩
      rw [List.length_replicate] at hi
      rw [Plain.rep_at hi]
      unfold repF
      rw [if_pos hi]
end Go.Proofs.Ytiolkeghgodggaj.Bo
