/-
  Contracts of the document's answer to Left.
-/
import Derived.Test.YtcdlgpickjiikafTlr
namespace Go.Proofs.Ytcdlgpickjiikaf
open Go.RowKit Go.Sort

set_option maxHeartbeats 2000000 in
theorem rleft_c (n b off cap bu ou cu : Nat) (G O C : Nat → Nat) (t : Plain.Ta) (s : Plain.Sq n t) (o : Nat) (ho : o < n) (w : World) (h : CellsT w n b off bu ou G O C t) :
    Calls Try.prog 34 #[aggT (.slice (some ⟨b, off, none⟩) n cap) (.slice (some ⟨bu, ou, none⟩) n cu), .int .i64 o] w fun e w' =>
      e = .returned (.int .i64 (Plain.leftT t o)) ∧ ∃ q, w' = (w.alloc (boxT (.slice (some ⟨b, off, none⟩) n cap) (.slice (some ⟨bu, ou, none⟩) n cu))).drewN q := by
  have H := hid h
  have S := hid s
  have hn8 := s.n8
  clear h s
  go_enter Try.func34, Try.ntmps34
  go_wp2
  obtain ⟨W, hW⟩ : ∃ W, W = w.alloc (boxT (.slice (some ⟨b, off, none⟩) n cap) (.slice (some ⟨bu, ou, none⟩) n cu)) := ⟨_, rfl⟩
  have T := hid (H.out.grow (w' := W) (by rw [hW]; exact (Below.refl _ _).alloc (Nat.le_refl _) _))
  have bx := box_cells w (.slice (some ⟨b, off, none⟩) n cap) (.slice (some ⟨bu, ou, none⟩) n cu)
  rw [← hW] at bx ⊢
  have HW := hid hW
  clear hW H
  generalize w.heap.size = B at bx ⊢
  obtain ⟨x0, x1⟩ := bx
  have hoz : (o : Int) < (n : Int) := by omega
  have c1 := T.out.c o ho
  have LE := hid (show Plain.leftT t o = Plain.sumTo (fun j => Plain.mv t j o) n - (Plain.sumTo (fun j => Plain.mv t o j) n - Plain.mv t o o) - Plain.us t o by rw [Plain.leftT_two, S.out.u])
  go_loopw [5, 6, 11] (fun s5 s6 i wr => ∃ k : Nat, k ≤ n ∧ i = .int .i64 k ∧ s5 = .int .i64 (Plain.sumTo (fun j => Plain.mv t j o) k) ∧ s6 = .int .i64 (Plain.sumTo (fun j => Plain.mv t o j) k) ∧ wr = W) (fun _ _ i _ => n - (intOf i).toNat)
  case atStart => exact ⟨0, Nat.zero_le _, rfl, rfl, rfl, rfl⟩
  case round =>
    obtain ⟨k, hk, rfl, rfl, rfl, hw⟩ := hrel
    have hy0 := hw.symm; clear hw; subst hy0
    have bd1 := Plain.sumTo_bd (fun j => Plain.mv t j o) 1048576 n k (fun j hj => by have := S.out.bm j o hj ho; omega) hk
    have bd2 := Plain.sumTo_bd (fun j => Plain.mv t o j) 1048576 n k (fun j hj => by have := S.out.bm o j ho hj; omega) hk
    have SE1 := hid (show Plain.sumTo (fun j => Plain.mv t j o) (k + 1) = Plain.sumTo (fun j => Plain.mv t j o) k + Plain.mv t k o from rfl)
    have SE2 := hid (show Plain.sumTo (fun j => Plain.mv t o j) (k + 1) = Plain.sumTo (fun j => Plain.mv t o j) k + Plain.mv t o k from rfl)
    have LE1 := hid (fun h : k = n => show Plain.leftT t o = Plain.sumTo (fun j => Plain.mv t j o) k - (Plain.sumTo (fun j => Plain.mv t o j) k - Plain.mv t o o) - Plain.us t o by rw [LE.out, h])
    clear LE
    generalize Plain.sumTo (fun j => Plain.mv t j o) k = z1 at *
    generalize Plain.sumTo (fun j => Plain.mv t o j) k = z2 at *
    have bz1 : -8388608 ≤ z1 ∧ z1 ≤ 8388608 := by omega
    have bz2 : -8388608 ≤ z2 ∧ z2 ≤ 8388608 := by omega
    clear bd1 bd2
    by_cases hlt : k < n
    · have hlt' : (k : Int) < (n : Int) := by omega
      have c2 := T.out.c k hlt
      have c3 := T.out.m k o hlt ho
      have c4 := T.out.m o k ho hlt
      have b3 := S.out.bm k o hlt ho
      have b4 := S.out.bm o k ho hlt
      clear LE1
      generalize Plain.mv t k o = x at *
      generalize Plain.mv t o k = y at *
      go_wp2
      go_roundw
      case rel => exact ⟨k + 1, by omega, by go_num, by rw [SE1.out], by rw [SE2.out], by first | rfl | trivial⟩
      case measure => simp [intOf]; omega
    · have ek : k = n := by omega
      have hnlt : ¬ (k : Int) < (n : Int) := by omega
      have LE2 := hid (LE1.out ek)
      have c2 := T.out.m o o ho ho
      have c3 := T.out.u o ho
      have b3 := S.out.bm o o ho ho
      have b4 := S.out.bu o ho
      clear LE1 SE1 SE2 ek
      generalize Plain.mv t o o = x at *
      generalize Plain.us t o = y at *
      go_wp2
      go_quiet (fail)
      go_wp2
      go_ret
      exact ⟨by rw [LE2.out]; rfl, nq, by rw [HW.out]⟩

theorem rleft_g (vm vu : Value) (t : Plain.Ta) (n : Nat) (s : Plain.Sq n t) (o : Int) (h0 : 0 ≤ o) (h1 : o < n) (w : World) (h : HasT w vm vu t) :
    Calls Try.prog 34 #[aggT vm vu, .int .i64 o] w fun e w' => e = .returned (.int .i64 (Plain.leftT t o.toNat)) ∧ ∃ q os', w' = grow (w.drewN q) os' := by
  obtain ⟨b, off, cap, bu, ou, cu, G, O, C, rfl, rfl, hc⟩ := h.open s
  have e : ((o.toNat : Nat) : Int) = o := Int.toNat_of_nonneg h0
  have K := rleft_c n b off cap bu ou cu G O C t s o.toNat (by omega) w hc
  rw [e] at K
  exact K.mono fun _ _ ⟨h1, q, h2⟩ => ⟨h1, q, _, h2.trans (one_drew _ _ _)⟩

set_option maxHeartbeats 1000000 in
theorem rLeft_c (vm vu : Value) (t : Plain.Ta) (o : Int) (w : World) (h : HasT w vm vu t) :
    Calls Try.prog 19 #[aggT vm vu, .int .i64 o] w fun e w' => e = .returned (.tuple #[.int .i64 (Plain.leftV t o), .int .i64 (Plain.leftE t o : Nat)]) ∧ Below w.heap.size w w' := by
  have S := hid (St.start h)
  obtain ⟨pu, cu, rfl, _⟩ := h.u.form
  have hub := h.u.b
  clear h
  by_cases hm : Plain.mayT t = true
  · have M := hid hm
    have SQ := hid (Plain.mayT_iff.1 hm)
    by_cases hr : 0 ≤ o ∧ o < t.used.length
    · have e0 : Plain.leftE t o = 0 := by unfold Plain.leftE; rw [if_pos hm, if_pos hr]
      have e1 : Plain.leftV t o = Plain.leftT t o.toNat := by unfold Plain.leftV; rw [if_pos e0]
      rw [e0, e1]
      obtain ⟨r1, r2⟩ := hr
      clear e0 e1 hm
      generalize hn : t.used.length = n at *
      have HN := hid hn
      clear hn
      have r3 : ¬ o < 0 := by omega
      have r4 : ¬ (n : Int) ≤ o := by omega
      go_enter Try.func19, Try.ntmps19
      go_wp2_with fail
      refine (rmay_g _ _ t _ S.out.has).mono ?_
      rw [M.out]
      rintro e w1 ⟨rfl, q1, os1, h1⟩
      have S1 := hid (S.out.step (w' := w1) (by rw [h1]; exact grow_below _ _ _))
      have x0 := S1.out.x0
      have x1 := S1.out.x1
      clear h1 S
      go_wp2_with fail
      refine (rleft_g _ _ t _ SQ.out o r1 r2 _ S1.out.has).mono ?_
      generalize hz : Plain.leftT t o.toNat = z
      have HZ := hid hz
      clear hz
      rintro e w3 ⟨rfl, q3, os3, h3⟩
      have S3 := hid (S1.out.step (w' := w3) (by rw [h3]; exact grow_below _ _ _))
      clear x0 x1 h3 S1
      go_wp2
      go_ret2
      exact ⟨by rw [HZ.out]; rfl, S3.out.bel⟩
    · have e0 : Plain.leftE t o = 2 := by unfold Plain.leftE; rw [if_pos hm, if_neg hr]
      have e1 : Plain.leftV t o = 0 := by unfold Plain.leftV; rw [if_neg (by rw [e0]; omega)]
      rw [e0, e1]
      clear e0 e1 hm
      generalize hn : t.used.length = n at *
      have HN := hid hn
      clear hn
      by_cases r0 : o < 0
      · clear hr
        go_enter Try.func19, Try.ntmps19
        go_wp2_with fail
        refine (rmay_g _ _ t _ S.out.has).mono ?_
        rw [M.out]
        rintro e w1 ⟨rfl, q1, os1, h1⟩
        have S1 := hid (S.out.step (w' := w1) (by rw [h1]; exact grow_below _ _ _))
        have x0 := S1.out.x0
        have x1 := S1.out.x1
        clear h1 S
        go_wp2
        go_ret2
        exact ⟨rfl, S1.out.bel⟩
      · have r4 : (n : Int) ≤ o := by omega
        clear hr
        go_enter Try.func19, Try.ntmps19
        go_wp2_with fail
        refine (rmay_g _ _ t _ S.out.has).mono ?_
        rw [M.out]
        rintro e w1 ⟨rfl, q1, os1, h1⟩
        have S1 := hid (S.out.step (w' := w1) (by rw [h1]; exact grow_below _ _ _))
        have x0 := S1.out.x0
        have x1 := S1.out.x1
        clear h1 S
        go_wp2
        go_ret2
        exact ⟨rfl, S1.out.bel⟩
  · have e0 : Plain.leftE t o = 4 := by unfold Plain.leftE; rw [if_neg hm]
    have e1 : Plain.leftV t o = 0 := by unfold Plain.leftV; rw [if_neg (by rw [e0]; omega)]
    rw [e0, e1]
    have M := hid (show Plain.mayT t = false by simpa using hm)
    clear e0 e1 hm
    go_enter Try.func19, Try.ntmps19
    go_wp2_with fail
    refine (rmay_g _ _ t _ S.out.has).mono ?_
    rw [M.out]
    rintro e w1 ⟨rfl, q1, os1, h1⟩
    have S1 := hid (S.out.step (w' := w1) (by rw [h1]; exact grow_below _ _ _))
    clear h1 S
    go_wp2
    go_ret2
    exact ⟨rfl, S1.out.bel⟩
end Go.Proofs.Ytcdlgpickjiikaf
