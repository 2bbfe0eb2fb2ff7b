/-
  A contract of clock.Join.
-/
import Derived.Test.YtlckhpfokijknaeCr
import Derived.Test.YtlckhpfokijknaeRw
namespace Go.Proofs.Ytlckhpfokijknae
open Go.RowKit

theorem join_step {wr w : World} {k n B : Nat} {f : Nat → Int} {x : Int} (hx : f k = x)
    (hrow : wr.rowIs B 3 n (fun j => if j < k then .int .i64 (f j) else .int .i64 0)) (hB : w.heap.size ≤ B) (hbel : Below w.heap.size w wr) :
    (wr.setCell ⟨B, k, none⟩ (.int .i64 x)).rowIs B 3 n (fun j => if j < k + 1 then .int .i64 (f j) else .int .i64 0) ∧
      Below w.heap.size w (wr.setCell ⟨B, k, none⟩ (.int .i64 x)) := by
  refine ⟨(hrow.set k (.int .i64 x)).congr fun j _ => ?_, hbel.setCell (p := ⟨B, k, none⟩) hB _⟩
  by_cases c : j = k
  · subst c; rw [if_pos rfl, if_pos (by omega), hx]
  · rw [if_neg c]
    by_cases d : j < k
    · rw [if_pos d, if_pos (by omega)]
    · rw [if_neg d, if_neg (by omega)]

set_option maxHeartbeats 2000000 in
theorem join_two (b1 o1 c1 b2 o2 c2 : Nat) (a b : List Int) (he : Plain.cE a b = 0) (hl : a.length ≤ 8) (w : World)
    (h1 : ∀ j, j < a.length → w.cell? ⟨b1, o1 + j, none⟩ = some (.int .i64 (a.getD j 0)))
    (h2 : ∀ j, j < a.length → w.cell? ⟨b2, o2 + j, none⟩ = some (.int .i64 (b.getD j 0)))
    (hb1 : 0 < a.length → b1 < w.heap.size) (hb2 : 0 < a.length → b2 < w.heap.size) 
    (K : Calls Try.prog 15 #[.slice (some ⟨b1, o1, none⟩) a.length c1, .slice (some ⟨b2, o2, none⟩) a.length c2] w fun e w' => e = .returned (.int .i64 (Plain.cE a b : Nat)) ∧ w' = w) :
    Calls Try.prog 12 #[.slice (some ⟨b1, o1, none⟩) a.length c1, .slice (some ⟨b2, o2, none⟩) a.length c2] w fun e w' =>
      e = .returned (.tuple #[.slice (some ⟨w.heap.size, 0, none⟩) a.length a.length, .int .i64 0]) ∧
      w'.rowIs w.heap.size 3 a.length (fun j => .int .i64 (max (a.getD j 0) (b.getD j 0))) ∧ Below w.heap.size w w' := by
  rw [he] at K
  have H1 := hid h1
  have H2 := hid h2
  clear h1 h2 he
  have hmk := run_make_row' (P := Try.prog) 34 3 (.int .i64 0) 8 Try.underlying34 Try.infoInt rfl .i64 .i64 a.length (by omega) (by omega)
  go_enter Try.func12, Try.ntmps12
  go_wp2_with fail
  refine K.mono ?_
  rintro e w' ⟨rfl, rfl⟩
  clear K
  go_wp2
  clear hmk
  go_loopw [20] (fun i wr => ∃ k : Nat, k ≤ a.length ∧ i = .int .i64 k ∧ wr.rowIs w'.heap.size 3 a.length (fun j => if j < k then .int .i64 (max (a.getD j 0) (b.getD j 0)) else .int .i64 0) ∧ Below w'.heap.size w' wr) (fun i _ => a.length - (intOf i).toNat)
  case atStart => exact ⟨0, Nat.zero_le _, rfl, World.rowIs_made w' (.int .i64 0) a.length 3, (Below.refl _ _).alloc (Nat.le_refl _) _⟩
  case round =>
    obtain ⟨k, hk, rfl, hrow, hbel⟩ := hrel
    by_cases hlt : k < a.length
    · have g1 := (hbel.cell (p := ⟨b1, o1 + k, none⟩) (hb1 (by omega))).trans (H1.out k hlt)
      have g2 := (hbel.cell (p := ⟨b2, o2 + k, none⟩) (hb2 (by omega))).trans (H2.out k hlt)
      have hlt' : (k : Int) < (a.length : Int) := by omega
      have hk0 : (0 : Int) ≤ (k : Int) := by omega
      have hsz := hrow.lt
      have hfz := hrow.frozen k
      have hcl := hrow.cell hlt
      have HR := hid hrow
      have HB := hid hbel
      clear hrow hbel
      obtain ⟨x, hx⟩ : ∃ x, x = a.getD k 0 := ⟨_, rfl⟩
      obtain ⟨y, hy⟩ : ∃ y, y = b.getD k 0 := ⟨_, rfl⟩
      rw [← hx] at g1
      rw [← hy] at g2
      have HX := hid hx
      have HY := hid hy
      clear hx hy
      go_wp2
      go_region
      have R := join_step (f := fun j => max (a.getD j 0) (b.getD j 0)) (x := if x < y then y else x) (by show max (a.getD k 0) (b.getD k 0) = _; rw [← HX.out, ← HY.out]; split <;> omega) HR.out (Nat.le_refl _) HB.out
      go_wp2
      go_roundw
      case rel => exact ⟨k + 1, by omega, by go_num, R.1.drew, R.2.drew⟩
      case measure => simp [intOf]; omega
    · have ek : k = a.length := by omega
      have HR := hid hrow
      have HB := hid hbel
      clear hrow hbel
      go_wp2
      go_ret2
      exact ⟨rfl, HR.out.congr fun j hj => by rw [if_pos (by omega)], HB.out⟩

theorem ret_pair {a b : Value} {k : IntKind} {x y : Int} (h : a = b) (h' : x = y) : Ending.returned (.tuple #[a, .int k x]) = .returned (.tuple #[b, .int k y]) := by rw [h, h']

set_option maxHeartbeats 400000 in
theorem join_err (u v : Value) (E : Nat) (h0 : E ≠ 0) (w : World)
    (K : Calls Try.prog 15 #[u, v] w fun e w' => e = .returned (.int .i64 E) ∧ w' = w) :
    Calls Try.prog 12 #[u, v] w fun e w' => e = .returned (.tuple #[.slice none 0 0, .int .i64 E]) ∧ w' = w := by
  have h1 : ¬ (E : Int) = 0 := by omega
  go_enter Try.func12, Try.ntmps12
  go_wp2_with fail
  refine K.mono ?_
  rintro e w' ⟨rfl, rfl⟩
  clear K
  go_wp2
  go_ret2
  exact ⟨rfl, rfl⟩

namespace Plain
theorem cE_parts {a b : List Int} (h : cE a b = 0) : okC a = true ∧ okC b = true ∧ a.length = b.length := by
  unfold cE at h
  split at h
  · rename_i h1
    simp only [Bool.and_eq_true] at h1
    split at h
    · rename_i h2; exact ⟨h1.1, h1.2, h2⟩
    · omega
  · omega
end Plain

/-- clock.Join where nothing is refused: a row of its own. -/
theorem join_ok (u v : Value) (a b : List Int) (he : Plain.cE a b = 0) (w : World) (h1 : Seg w u a) (hu : Lies w.heap.size u) (h2 : Seg w v b) (hv : Lies w.heap.size v) :
    Calls Try.prog 12 #[u, v] w fun e w' => e = .returned (.tuple #[.slice (some ⟨w.heap.size, 0, none⟩) a.length a.length, .int .i64 0]) ∧ RowI w' w.heap.size (Plain.joinL a b) ∧ Below w.heap.size w w' := by
  obtain ⟨ha, hb, hlen⟩ := Plain.cE_parts he
  have ha1 := (Plain.okC_iff a).1 ha
  have K := refuse_any u v a b (by omega) (by omega) w h1 h2
  rcases h1 with ⟨e, _⟩ | ⟨b1, o1, c1, rfl, g1⟩
  · rw [e] at ha1; simp at ha1
  rcases h2 with ⟨e, _⟩ | ⟨b2, o2, c2, rfl, g2⟩
  · rw [e] at hlen; rw [hlen] at ha1; simp at ha1
  rw [← hlen] at K g2 ⊢
  refine (join_two b1 o1 c1 b2 o2 c2 a b he (by omega) w g1 g2 (fun h => hu _ _ _ rfl h) (fun h => hv _ _ _ rfl (by rw [← hlen]; exact h)) K).mono ?_
  rintro e w' ⟨rfl, hr, hb⟩
  exact ⟨rfl, RowI.of_rowIs hr (by rw [Plain.joinL_len]; exact Nat.le_refl _) (fun i hi => by rw [Plain.joinL_len] at hi; rw [Plain.joinL_at _ _ _ hi]), hb⟩

/-- clock.Join at whatever two slices. -/
theorem join_any (u v : Value) (a b : List Int) (ha : a.length ≤ 9223372036854775807) (hb : b.length ≤ 9223372036854775807) (w : World) (h1 : Seg w u a) (hu : Lies w.heap.size u) (h2 : Seg w v b) (hv : Lies w.heap.size v) :
    Calls Try.prog 12 #[u, v] w fun e w' => ∃ r, e = .returned (.tuple #[r, .int .i64 (Plain.cE a b : Nat)]) ∧ Seg w' r (Plain.jV a b) ∧ Lies w'.heap.size r ∧ Below w.heap.size w w' := by
  by_cases he : Plain.cE a b = 0
  · refine (join_ok u v a b he w h1 hu h2 hv).mono ?_
    rintro e w' ⟨rfl, hr, hbel⟩
    rw [he]
    refine ⟨_, rfl, ?_, hr.lies _ _, hbel⟩
    unfold Plain.jV
    rw [if_pos he]
    have := hr.seg a.length
    rwa [Plain.joinL_len] at this
  · refine (join_err u v _ he w (refuse_any u v a b ha hb w h1 h2)).mono ?_
    rintro e w' ⟨rfl, rfl⟩
    refine ⟨_, rfl, ?_, lies_nil _ _ _, Below.refl _ _⟩
    unfold Plain.jV
    rw [if_neg he]
    exact Seg.nil _
end Go.Proofs.Ytlckhpfokijknae
