/-
  Contracts of tally.isBranch, tally.left.
-/
import Derived.Test.YtcdlgpickjiikagTj
import Derived.BigQuiet
namespace Go.Proofs.Ytcdlgpickjiikag
open Go.RowKit Go.Shelf

set_option maxHeartbeats 1000000 in
theorem isBranch_c (vm vu : Value) (t : Plain.Ta) (o : Int) (w : World) (h : HasT w vm vu t) :
    Calls Try.prog 23 #[aggT vm vu, .int .i64 o] w fun e w' => e = .returned (.bool (decide (0 ≤ o ∧ o < t.used.length))) ∧ w' = w.alloc (boxT vm vu) := by
  obtain ⟨pu, cu, rfl, _⟩ := h.u.form
  have hub := h.u.b
  clear h
  generalize t.used.length = n at *
  by_cases h0 : 0 ≤ o
  · by_cases h1 : o < n
    · rw [decide_eq_true (⟨h0, h1⟩ : 0 ≤ o ∧ o < n)]
      go_enter Try.func23, Try.ntmps23
      go_wp2
      go_ret
      exact ⟨rfl, rfl⟩
    · rw [decide_eq_false (fun h => h1 h.2 : ¬ (0 ≤ o ∧ o < n))]
      go_enter Try.func23, Try.ntmps23
      go_wp2
      go_ret
      exact ⟨rfl, rfl⟩
  · rw [decide_eq_false (fun h => h0 h.1 : ¬ (0 ≤ o ∧ o < n))]
    go_enter Try.func23, Try.ntmps23
    go_wp2
    go_ret
    exact ⟨rfl, rfl⟩

theorem box_cells (w : World) (vm vu : Value) : (w.alloc (boxT vm vu)).cell? ⟨w.heap.size, 0, none⟩ = some vm ∧ (w.alloc (boxT vm vu)).cell? ⟨w.heap.size, 1, none⟩ = some vu :=
  ⟨by rw [World.cell?_alloc_at _ _ _ _ rfl]; rfl, by rw [World.cell?_alloc_at _ _ _ _ rfl]; rfl⟩

set_option maxHeartbeats 2000000 in
theorem left_c (n b off cap bu ou cu : Nat) (G O C : Nat → Nat) (t : Plain.Ta) (s : Plain.Sq n t) (o : Nat) (ho : o < n) (w : World) (h : CellsT w n b off bu ou G O C t) :
    Calls Try.prog 24 #[aggT (.slice (some ⟨b, off, none⟩) n cap) (.slice (some ⟨bu, ou, none⟩) n cu), .int .i64 o] w fun e w' =>
      e = .returned (.int .i64 (Plain.leftT t o)) ∧ ∃ q, w' = (w.alloc (boxT (.slice (some ⟨b, off, none⟩) n cap) (.slice (some ⟨bu, ou, none⟩) n cu))).drewN q := by
  have H := hid h
  have S := hid s
  have hn8 := s.n8
  clear h s
  go_enter Try.func24, Try.ntmps24
  go_wp2
  obtain ⟨W, hW⟩ : ∃ W, W = w.alloc (boxT (.slice (some ⟨b, off, none⟩) n cap) (.slice (some ⟨bu, ou, none⟩) n cu)) := ⟨_, rfl⟩
  have T := hid (H.out.grow (w' := W) (by rw [hW]; exact (Below.refl _ _).alloc (Nat.le_refl _) _))
  have bx := box_cells w (.slice (some ⟨b, off, none⟩) n cap) (.slice (some ⟨bu, ou, none⟩) n cu)
  rw [← hW] at bx ⊢
  have HW := hid hW
  clear hW H
  generalize w.heap.size = B at bx ⊢
  obtain ⟨x0, x1⟩ := bx
  have hoz : (o : Int) < (n : Int) := by omega
  obtain ⟨a, ha⟩ : ∃ a, a = Plain.mv t o o := ⟨_, rfl⟩
  obtain ⟨u, hu⟩ : ∃ u, u = Plain.us t o := ⟨_, rfl⟩
  have ba := S.out.bm o o ho ho
  have b2 := S.out.bu o ho
  have c1 := T.out.c o ho
  have c2 := T.out.m o o ho ho
  have c3 := T.out.u o ho
  rw [← ha] at ba c2
  rw [← hu] at b2 c3
  have HA := hid ha
  have HU := hid hu
  clear ha hu
  go_quiet (fail)
  go_wp2
  have HX := hid (And.intro x0 x1)
  have HC1 := hid c1
  clear c1 c2 c3 x0 x1
  go_loopw [5, 24] (fun s5 i wr => ∃ k q : Nat, k ≤ n ∧ i = .int .i64 k ∧ s5 = .int .i64 (a - u + Plain.sumTo (fun j => Plain.mv t j o - Plain.mv t o j) k) ∧ wr = W.drewN q) (fun _ i _ => n - (intOf i).toNat)
  case atStart => exact ⟨0, nq, Nat.zero_le _, rfl, by rw [Plain.sumTo, Int.add_zero], rfl⟩
  case round =>
    obtain ⟨k, q, hk, rfl, rfl, hw⟩ := hrel
    have BD := hid (Plain.sumTo_bd (fun j => Plain.mv t j o - Plain.mv t o j) 1048576 n k (fun j hj => by have := S.out.bm j o hj ho; have := S.out.bm o j ho hj; omega) hk)
    have SE := hid (show Plain.sumTo (fun j => Plain.mv t j o - Plain.mv t o j) (k + 1) = Plain.sumTo (fun j => Plain.mv t j o - Plain.mv t o j) k + (Plain.mv t k o - Plain.mv t o k) from rfl)
    have bd := BD.out
    have LE := hid (fun h : k = n => show Plain.leftT t o = a - u + Plain.sumTo (fun j => Plain.mv t j o - Plain.mv t o j) k by unfold Plain.leftT; rw [S.out.u, h, ← HA.out, ← HU.out])
    generalize Plain.sumTo (fun j => Plain.mv t j o - Plain.mv t o j) k = z at *
    have hk2 : (k : Int) ≤ 8 := by omega
    have bz : -8388608 ≤ z ∧ z ≤ 8388608 := by omega
    clear bd BD
    by_cases hlt : k < n
    · have hlt' : (k : Int) < (n : Int) := by omega
      have cv : ∀ a, wr.cell? a = W.cell? a := fun a => by rw [hw]; simp
      have x0 := (cv _).trans HX.out.1
      have c1 := (cv _).trans HC1.out
      have c2 := (cv _).trans (T.out.c k hlt)
      have c3 := (cv _).trans (T.out.m k o hlt ho)
      have c4 := (cv _).trans (T.out.m o k ho hlt)
      clear cv
      have b3 := S.out.bm k o hlt ho
      have b4 := S.out.bm o k ho hlt
      generalize Plain.mv t k o = x at *
      generalize Plain.mv t o k = y at *
      have HQ := hid hw
      clear hw
      go_wp2
      go_quiet (fail)
      go_wp2
      go_roundw
      case rel => exact ⟨k + 1, q + nq, by omega, by go_num, by rw [SE.out]; go_num, by rw [HQ.out, World.drewN_drewN]⟩
      case measure => simp [intOf]; omega
    · have ek : k = n := by omega
      have LE2 := hid (LE.out ek)
      have HQ := hid hw
      clear hw LE SE
      subst ek
      go_wp2
      go_ret
      exact ⟨by rw [LE2.out]; rfl, q, by rw [HQ.out, HW.out]⟩
end Go.Proofs.Ytcdlgpickjiikag
