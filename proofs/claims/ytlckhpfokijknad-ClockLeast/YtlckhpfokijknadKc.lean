/-
  Contracts of ClockOf and order; how clocks stand, plain.
-/
import Derived.Test.YtlckhpfokijknadPk
import Derived.Test.YtlckhpfokijknadCo
namespace Go.Proofs.Ytlckhpfokijknad
open Go.RowKit

namespace Plain
def clkv (l : List Int) (i : Nat) : Int := if i < l.length then l.getD i 0 % 5 else 0
/-- The clock that ClockOf makes. -/
def clk (l : List Int) : List Int := (List.range 4).map (clkv l)
theorem clk_len (l : List Int) : (clk l).length = 4 := by simp [clk]
theorem clk_at (l : List Int) (i : Nat) (h : i < 4) : (clk l).getD i 0 = clkv l i := getD_map_range _ _ _ _ h
theorem clkv_bd (l : List Int) (i : Nat) : 0 ≤ clkv l i ∧ clkv l i ≤ 4 := by
  unfold clkv
  split <;> omega
theorem clk_ok (l : List Int) : okC (clk l) = true := by
  rw [okC_iff, clk_len]
  refine ⟨by omega, fun n hn => ?_⟩
  obtain ⟨i, _, rfl⟩ := List.mem_map.1 hn
  have := clkv_bd l i
  rw [okN_iff]; omega

/-- Clocks of as many numbers, which may be. -/
def Fit (n : Nat) (a : List Int) : Prop := okC a = true ∧ a.length = n
theorem Fit.cE {n : Nat} {a b : List Int} (ha : Fit n a) (hb : Fit n b) : cE a b = 0 := by
  unfold Plain.cE
  rw [ha.1, hb.1, ha.2, hb.2]; simp
theorem clk_fit (l : List Int) : Fit 4 (clk l) := ⟨clk_ok l, clk_len l⟩
theorem at_ok {a : List Int} (h : okC a = true) {i : Nat} (hi : i < a.length) : 0 ≤ a.getD i 0 ∧ a.getD i 0 ≤ 1048576 := by
  have := ((okC_iff a).1 h).2 (a.getD i 0) (by rw [List.getD_eq_getElem?_getD, List.getElem?_eq_getElem hi]; exact List.getElem_mem hi)
  exact (okN_iff _).1 this
theorem joinL_fit {n : Nat} {a b : List Int} (ha : Fit n a) (hb : Fit n b) : Fit n (joinL a b) := by
  refine ⟨?_, by rw [joinL_len]; exact ha.2⟩
  have h1 := (okC_iff a).1 ha.1
  rw [okC_iff, joinL_len]
  refine ⟨h1.1, fun x hx => ?_⟩
  obtain ⟨i, hi, rfl⟩ := List.mem_map.1 hx
  rw [List.mem_range] at hi
  have g1 := at_ok ha.1 hi
  have g2 := at_ok hb.1 (show i < b.length by rw [hb.2, ← ha.2]; exact hi)
  rw [okN_iff]; omega
theorem jV_fit {n : Nat} {a b : List Int} (ha : Fit n a) (hb : Fit n b) : jV a b = joinL a b := by unfold jV; rw [if_pos (ha.cE hb)]
theorem ext_at {n : Nat} {a b : List Int} (ha : a.length = n) (hb : b.length = n) (h : ∀ i, i < n → a.getD i 0 = b.getD i 0) : a = b := by
  apply List.ext_getElem (by rw [ha, hb])
  intro i h1 h2
  have := h i (by omega)
  simpa [List.getD_eq_getElem?_getD, h1, h2] using this

/-- No number of a is greater than b's. -/
def Le (n : Nat) (a b : List Int) : Prop := ∀ i, i < n → a.getD i 0 ≤ b.getD i 0
theorem less_no {n : Nat} {a b : List Int} (ha : Fit n a) : less a b = false ↔ Le n b a := by
  constructor
  · intro h i hi
    by_cases c : a.getD i 0 < b.getD i 0
    · have := (less_iff a b).2 ⟨i, by rw [ha.2]; exact hi, c⟩
      rw [h] at this; cases this
    · omega
  · intro h
    cases hh : less a b
    · rfl
    · obtain ⟨i, hi, c⟩ := (less_iff a b).1 hh
      have := h i (by rw [← ha.2]; exact hi)
      omega
theorem oV_is {n : Nat} {a b : List Int} (ha : Fit n a) (hb : Fit n b) : oV a b = if less a b && less b a then 2 else if less a b then -1 else if less b a then 1 else 0 := by
  unfold oV; rw [if_pos (ha.cE hb)]
theorem oV_le {n : Nat} {a b : List Int} (ha : Fit n a) (hb : Fit n b) : oV a b ≤ 0 ↔ Le n a b := by
  rw [oV_is ha hb, ← less_no hb]
  cases less a b <;> cases less b a <;> simp
theorem oV_zero {n : Nat} {a b : List Int} (ha : Fit n a) (hb : Fit n b) : oV a b = 0 ↔ a = b := by
  have h : oV a b = 0 ↔ Le n a b ∧ Le n b a := by
    rw [oV_is ha hb, ← less_no hb, ← less_no ha]
    cases less a b <;> cases less b a <;> simp
  rw [h]
  constructor
  · rintro ⟨h1, h2⟩
    exact ext_at ha.2 hb.2 fun i hi => by have := h1 i hi; have := h2 i hi; omega
  · rintro rfl
    exact ⟨fun i _ => Int.le_refl _, fun i _ => Int.le_refl _⟩
theorem oV_neg {n : Nat} {a b : List Int} (ha : Fit n a) (hb : Fit n b) : oV a b = -1 ↔ Le n a b ∧ a ≠ b := by
  rw [Ne, ← oV_zero ha hb, ← oV_le ha hb, oV_is ha hb]
  cases less a b <;> cases less b a <;> simp
theorem oV_turn {n : Nat} {a b : List Int} (ha : Fit n a) (hb : Fit n b) : oV b a = if oV a b = 2 then 2 else -oV a b := by
  rw [oV_is ha hb, oV_is hb ha]
  cases less a b <;> cases less b a <;> simp
theorem oV_bd {n : Nat} {a b : List Int} (ha : Fit n a) (hb : Fit n b) : -1 ≤ oV a b ∧ oV a b ≤ 2 := by
  rw [oV_is ha hb]
  cases less a b <;> cases less b a <;> simp
theorem oV_on {n : Nat} {a b c : List Int} (ha : Fit n a) (hb : Fit n b) (hc : Fit n c) (h1 : oV a b = -1) (h2 : oV b c = -1) : oV a c = -1 := by
  rw [oV_neg ha hb] at h1
  rw [oV_neg hb hc] at h2
  rw [oV_neg ha hc]
  refine ⟨fun i hi => Int.le_trans (h1.1 i hi) (h2.1 i hi), fun e => ?_⟩
  subst e
  exact h1.2 (ext_at ha.2 hb.2 fun i hi => by have := h1.1 i hi; have := h2.1 i hi; omega)
end Plain

theorem clk_step {wr w : World} {k B : Nat} {l : List Int} {x : Int} (hx : Plain.clkv l k = x)
    (hrow : wr.rowIs B 3 4 (fun j => if j < k then .int .i64 (Plain.clkv l j) else .int .i64 0)) (hB : w.heap.size ≤ B) (hbel : Below w.heap.size w wr) :
    (wr.setCell ⟨B, k, none⟩ (.int .i64 x)).rowIs B 3 4 (fun j => if j < k + 1 then .int .i64 (Plain.clkv l j) else .int .i64 0) ∧
      Below w.heap.size w (wr.setCell ⟨B, k, none⟩ (.int .i64 x)) := by
  refine ⟨(hrow.set k (.int .i64 x)).congr fun j _ => ?_, hbel.setCell (p := ⟨B, k, none⟩) hB _⟩
  by_cases c : j = k
  · subst c; rw [if_pos rfl, if_pos (by omega), hx]
  · rw [if_neg c]
    by_cases d : j < k
    · rw [if_pos d, if_pos (by omega)]
    · rw [if_neg d, if_neg (by omega)]
theorem clk_made {w : World} {B k : Nat} {l : List Int} (hk : k = 4 ∨ l.length ≤ k) (hrow : w.rowIs B 3 4 (fun j => if j < k then .int .i64 (Plain.clkv l j) else .int .i64 0)) : RowI w B (Plain.clk l) := by
  refine RowI.of_rowIs hrow (by rw [Plain.clk_len]; omega) fun i hi => ?_
  rw [Plain.clk_len] at hi
  rw [Plain.clk_at l i hi]
  by_cases c : i < k
  · rw [if_pos c]
  · rw [if_neg c]
    unfold Plain.clkv
    rw [if_neg (by omega)]

set_option maxHeartbeats 1000000 in
theorem clockOf_some (b off cap : Nat) (l : List Int) (hr : ∀ n ∈ l, (Lit.int .i64 n).wf = true) (hl : l.length ≤ 9223372036854775807) (w : World)
    (h : ∀ j, j < l.length → w.cell? ⟨b, off + j, none⟩ = some (.int .i64 (l.getD j 0))) (hb : 0 < l.length → b < w.heap.size) :
    Calls Try.prog 19 #[.slice (some ⟨b, off, none⟩) l.length cap] w fun e w' => e = .returned (.slice (some ⟨w.heap.size, 0, none⟩) 4 4) ∧ RowI w' w.heap.size (Plain.clk l) ∧ Below w.heap.size w w' := by
  have H := hid h
  have HR := hid hr
  clear h hr
  have hmk : ∀ w : World, (Instr.makeSlice 22 (.int .i64 4) (.int .i64 4)).run Try.prog w = .ok (.slice (some ⟨w.heap.size, 0, none⟩) 4 4) (w.alloc (.cells (madeCells #[.int .i64 0] 4) 3)) :=
    run_make_row' (P := Try.prog) 22 3 (.int .i64 0) 8 Try.underlying22 Try.infoInt rfl .i64 .i64 4 (by omega) (by omega)
  go_enter Try.func19, Try.ntmps19
  go_wp2
  clear hmk
  go_loopw [4] (fun i wr => ∃ k : Nat, k ≤ l.length ∧ k ≤ 4 ∧ i = .int .i64 k ∧ wr.rowIs w.heap.size 3 4 (fun j => if j < k then .int .i64 (Plain.clkv l j) else .int .i64 0) ∧ Below w.heap.size w wr) (fun i _ => 4 - (intOf i).toNat)
  case atStart => exact ⟨0, Nat.zero_le _, by omega, rfl, World.rowIs_made w (.int .i64 0) 4 3, (Below.refl _ _).alloc (Nat.le_refl _) _⟩
  case round =>
    obtain ⟨k, hk, hk4, rfl, hrow, hbel⟩ := hrel
    by_cases hlt : k < l.length ∧ k < 4
    · obtain ⟨hlt1, hlt2⟩ := hlt
      have g := (hbel.cell (p := ⟨b, off + k, none⟩) (hb (by omega))).trans (H.out k hlt1)
      have hx := HR.out (l.getD k 0) (by rw [List.getD_eq_getElem?_getD, List.getElem?_eq_getElem hlt1]; exact List.getElem_mem hlt1)
      have hst := hid (show Plain.clkv l k = l.getD k 0 % 5 by unfold Plain.clkv; rw [if_pos hlt1])
      have hx2 := bounds_i64 hx
      clear hx
      generalize hxx : l.getD k 0 = x at g hx2 hst
      clear hxx
      obtain ⟨hx3, hx4⟩ := hx2
      have hlt' : (k : Int) < (l.length : Int) := by omega
      have hsz := hrow.lt
      have hfz := hrow.frozen k
      have hcl := hrow.cell hlt2
      have HW := hid hrow
      have HB := hid hbel
      clear hrow hbel
      go_wp2_with fail
      refine (picked_any x 5 hx3 hx4 (by omega) (by omega) _).mono ?_
      rintro e wx ⟨rfl, hx⟩
      have hy := hx.symm
      clear hx
      subst hy
      have hm0 : 0 ≤ x % 5 := by omega
      have hm1 : x % 5 < 5 := by omega
      generalize x % 5 = y at hm0 hm1 hst
      have R := clk_step hst.out HW.out (Nat.le_refl _) HB.out
      go_wp2
      go_roundw
      case rel => exact ⟨k + 1, by omega, by omega, by go_num, R.1, R.2⟩
      case measure => simp [intOf]; omega
    · have HW := hid hrow
      have HB := hid hbel
      clear hrow hbel
      by_cases hlt1 : k < l.length
      · have h20 : k = 4 := by omega
        subst h20
        clear hlt
        go_wp2
        go_ret
        exact ⟨rfl, clk_made (.inl rfl) HW.out, HB.out⟩
      · clear hlt
        have hlt1' : ¬ (k : Int) < (l.length : Int) := by omega
        go_wp2
        all_goals (go_ret; exact ⟨rfl, clk_made (.inr (by omega)) HW.out, HB.out⟩)

set_option maxHeartbeats 1000000 in
theorem clockOf_nil (p : Option Addr) (cap : Nat) (w : World) :
    Calls Try.prog 19 #[.slice p 0 cap] w fun e w' => e = .returned (.slice (some ⟨w.heap.size, 0, none⟩) 4 4) ∧ RowI w' w.heap.size (Plain.clk []) ∧ Below w.heap.size w w' := by
  have hmk : ∀ w : World, (Instr.makeSlice 22 (.int .i64 4) (.int .i64 4)).run Try.prog w = .ok (.slice (some ⟨w.heap.size, 0, none⟩) 4 4) (w.alloc (.cells (madeCells #[.int .i64 0] 4) 3)) :=
    run_make_row' (P := Try.prog) 22 3 (.int .i64 0) 8 Try.underlying22 Try.infoInt rfl .i64 .i64 4 (by omega) (by omega)
  go_enter Try.func19, Try.ntmps19
  go_wp2
  refine wp_loop_rounds 1 ?_
  rw [rounds_succ]
  go_wp2
  go_ret
  exact ⟨rfl, clk_made (k := 0) (.inr (Nat.le_refl _)) (World.rowIs_made w (.int .i64 0) 4 3), (Below.refl _ _).alloc (Nat.le_refl _) _⟩

/-- ClockOf at whatever numbers. -/
theorem clockOf_any (v : Value) (l : List Int) (hr : ∀ n ∈ l, (Lit.int .i64 n).wf = true) (hl : l.length ≤ 9223372036854775807) (w : World) (h : Seg w v l) (hv : Lies w.heap.size v) :
    Calls Try.prog 19 #[v] w fun e w' => e = .returned (.slice (some ⟨w.heap.size, 0, none⟩) 4 4) ∧ RowI w' w.heap.size (Plain.clk l) ∧ Below w.heap.size w w' := by
  rcases h with ⟨rfl, p, c, rfl⟩ | ⟨b, o, c, rfl, g⟩
  · exact clockOf_nil p c w
  · exact clockOf_some b o c l hr hl w g (fun hp => hv _ _ _ rfl hp)

set_option maxHeartbeats 400000 in
/-- order at two clocks that may be, of as many numbers. -/
theorem korder (u v : Value) (n : Nat) (a b : List Int) (ha : Plain.Fit n a) (hb : Plain.Fit n b) (w : World) (h1 : Seg w u a) (h2 : Seg w v b) :
    Calls Try.prog 20 #[u, v] w fun e w' => e = .returned (.int .i64 (Plain.oV a b)) ∧ ∃ q, w' = w.drewN q := by
  have l1 := ((Plain.okC_iff a).1 ha.1).1
  have l2 := ((Plain.okC_iff b).1 hb.1).1
  have K := order_any u v a b (by omega) (by omega) w h1 h2
  rw [ha.cE hb] at K
  generalize Plain.oV a b = z at K
  go_enter Try.func20, Try.ntmps20
  go_wp2_with fail
  refine K.mono ?_
  rintro e w' ⟨rfl, q, rfl⟩
  clear K
  go_wp2
  go_ret
  exact ⟨rfl, q, rfl⟩
end Go.Proofs.Ytlckhpfokijknad
