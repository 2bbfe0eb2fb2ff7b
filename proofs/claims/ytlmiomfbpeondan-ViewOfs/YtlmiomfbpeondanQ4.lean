/-
  The document's ConfigMay.
-/
import Derived.Test.YtlmiomfbpeondanQ2
namespace Go.Proofs.Ytlmiomfbpeondan
open Go.RowKit Go.Shelf

namespace Plain
theorem may_no (c : Cf) (h : (c.n < 1 ∨ 8 < c.n ∨ (4 : Int) < (c.ls.length : Int) ∨ c.t < 1 ∨ 8 < c.t ∨ (c.ms.length : Int) < 1 ∨ (3 : Int) < (c.ms.length : Int) ∨ c.cap < 0 ∨ 1048576 < c.cap) ∨ c.ls.all (labB c.n) = false ∨ c.ms.all cntB = false) : mayC c = false := by
  cases hm : mayC c with
  | false => rfl
  | true =>
    exfalso
    obtain ⟨h1, h2, h3, h4, h5, h6, h7⟩ := may_all hm
    rw [h3, h6] at h
    have h : (c.n < 1 ∨ 8 < c.n ∨ (4 : Int) < (c.ls.length : Int) ∨ c.t < 1 ∨ 8 < c.t ∨ (c.ms.length : Int) < 1 ∨ (3 : Int) < (c.ms.length : Int) ∨ c.cap < 0 ∨ 1048576 < c.cap) := by simpa using h
    omega
theorem may_yes (c : Cf) (h : ¬ (c.n < 1 ∨ 8 < c.n ∨ (4 : Int) < (c.ls.length : Int) ∨ c.t < 1 ∨ 8 < c.t ∨ (c.ms.length : Int) < 1 ∨ (3 : Int) < (c.ms.length : Int) ∨ c.cap < 0 ∨ 1048576 < c.cap)) (h1 : c.ls.all (labB c.n) = true) (h2 : c.ms.all cntB = true) : mayC c = true := by
  unfold mayC labsB
  rw [h1, h2]
  simp only [inR, Bool.and_eq_true, decide_eq_true_eq]
  refine ⟨?_, ?_, ?_, ?_, ?_, ?_⟩ <;> first | omega | trivial | (refine ⟨?_, trivial⟩; omega)
theorem all_takeI (p : Int → Bool) (l : List Int) (k : Nat) (h : k < l.length) (h1 : (l.take k).all p = true) (h2 : p (l.getD k 0) = true) : (l.take (k + 1)).all p = true := by
  rw [List.take_succ_eq_append_getElem h, List.all_append, h1]
  simp [List.getD_eq_getElem?_getD, List.getElem?_eq_getElem h] at h2 ⊢
  exact h2
theorem all_noI (p : Int → Bool) (l : List Int) (k : Nat) (h : k < l.length) (h2 : p (l.getD k 0) = false) : l.all p = false := by
  simp [List.getD_eq_getElem?_getD, List.getElem?_eq_getElem h] at h2
  rw [List.all_eq_false]
  exact ⟨l[k], List.getElem_mem h, by simp [h2]⟩
end Plain

theorem seg_at {w : World} {p : Option Addr} {c : Nat} {l : List Int} (h : Seg w (.slice p l.length c) l) (h0 : 0 < l.length) : ∃ b off, p = some ⟨b, off, none⟩ ∧ ∀ j, j < l.length → w.cell? ⟨b, off + j, none⟩ = some (.int .i64 (l.getD j 0)) := by
  rcases h with ⟨rfl, _⟩ | ⟨b, o, c, e, g⟩
  · simp at h0
  · injection e with e1 e2 e3
    exact ⟨b, o, e1, g⟩
set_option maxHeartbeats 4000000 in
theorem rmay_c (c : Plain.Cf) (lv mv : Value) (w : World) (hI : CfI w c lv mv) :
    Calls Try.prog 13 #[cfV c lv mv] w fun e w' => e = .returned (.bool (Plain.mayC c)) ∧ Below w.heap.size w w' := by
  have bA : Below w.heap.size w (w.alloc (boxC c lv mv)) := (Below.refl _ _).alloc (Nat.le_refl _) _
  have I := hI.grow bA
  have BA := hid bA
  clear bA
  obtain ⟨lp, lc, rfl⟩ := seg_len hI.sl
  obtain ⟨mp, mc, rfl⟩ := seg_len hI.sm
  have SL := hid (seg_at I.sl)
  have SM := hid (seg_at I.sm)
  have LB := hid (And.intro I.bl I.bm)
  have hr := hid I.rl
  have I0 := hid hI
  clear I hI
  obtain ⟨n, ls, t, ms, cap⟩ := c
  dsimp only at *
  by_cases q0 : n < 1
  · clear SL SM LB I0 hr
    have HR := hid (Plain.may_no ⟨n, ls, t, ms, cap⟩ (.inl (by simp only []; omega)))
    go_enter Try.func13, Try.ntmps13
    go_wp2
    go_ret
    exact ⟨by rw [HR.out]; rfl, BA.out⟩
  by_cases q1 : 8 < n
  · clear SL SM LB I0 hr
    have HR := hid (Plain.may_no ⟨n, ls, t, ms, cap⟩ (.inl (by simp only []; omega)))
    go_enter Try.func13, Try.ntmps13
    go_wp2
    go_ret
    exact ⟨by rw [HR.out]; rfl, BA.out⟩
  by_cases q2 : (4 : Int) < (ls.length : Int)
  · clear SL SM LB I0 hr
    have HR := hid (Plain.may_no ⟨n, ls, t, ms, cap⟩ (.inl (by simp only []; omega)))
    go_enter Try.func13, Try.ntmps13
    go_wp2
    go_ret
    exact ⟨by rw [HR.out]; rfl, BA.out⟩
  by_cases q3 : t < 1
  · clear SL SM LB I0 hr
    have HR := hid (Plain.may_no ⟨n, ls, t, ms, cap⟩ (.inl (by simp only []; omega)))
    go_enter Try.func13, Try.ntmps13
    go_wp2
    go_ret
    exact ⟨by rw [HR.out]; rfl, BA.out⟩
  by_cases q4 : 8 < t
  · clear SL SM LB I0 hr
    have HR := hid (Plain.may_no ⟨n, ls, t, ms, cap⟩ (.inl (by simp only []; omega)))
    go_enter Try.func13, Try.ntmps13
    go_wp2
    go_ret
    exact ⟨by rw [HR.out]; rfl, BA.out⟩
  by_cases q5 : (ms.length : Int) < 1
  · clear SL SM LB I0 hr
    have HR := hid (Plain.may_no ⟨n, ls, t, ms, cap⟩ (.inl (by simp only []; omega)))
    go_enter Try.func13, Try.ntmps13
    go_wp2
    go_ret
    exact ⟨by rw [HR.out]; rfl, BA.out⟩
  by_cases q6 : (3 : Int) < (ms.length : Int)
  · clear SL SM LB I0 hr
    have HR := hid (Plain.may_no ⟨n, ls, t, ms, cap⟩ (.inl (by simp only []; omega)))
    go_enter Try.func13, Try.ntmps13
    go_wp2
    go_ret
    exact ⟨by rw [HR.out]; rfl, BA.out⟩
  by_cases q7 : cap < 0
  · clear SL SM LB I0 hr
    have HR := hid (Plain.may_no ⟨n, ls, t, ms, cap⟩ (.inl (by simp only []; omega)))
    go_enter Try.func13, Try.ntmps13
    go_wp2
    go_ret
    exact ⟨by rw [HR.out]; rfl, BA.out⟩
  by_cases q8 : 1048576 < cap
  · clear SL SM LB I0 hr
    have HR := hid (Plain.may_no ⟨n, ls, t, ms, cap⟩ (.inl (by simp only []; omega)))
    go_enter Try.func13, Try.ntmps13
    go_wp2
    go_ret
    exact ⟨by rw [HR.out]; rfl, BA.out⟩
  obtain ⟨m, rfl⟩ : ∃ m : Nat, n = (m : Int) := ⟨n.toNat, by omega⟩
  have h8 : m ≤ 8 := by omega
  have HY := hid (Plain.may_yes ⟨m, ls, t, ms, cap⟩ (by simp only []; omega))
  have HN := hid (fun h => Plain.may_no ⟨m, ls, t, ms, cap⟩ (.inr h))
  have hz : ((2 ^ m : Nat) : Int) = (2 : Int) ^ m := by simp
  have hp := LabP.pow_le h8
  have hp1 := Nat.two_pow_pos m
  have HL := hid (fun (s : Int) => show Plain.labB (m : Int) s = (decide (0 ≤ s) && decide (s < (2 : Int) ^ m)) by unfold Plain.labB; rw [Int.toNat_natCast])
  have h0 : 0 ≤ (m : Int) := by omega
  clear I0 hr
  go_enter Try.func13, Try.ntmps13
  go_wp2
  go_loop [4, 56] (fun _ i => ∃ k : Nat, k ≤ ls.length ∧ i = .int .i64 k ∧ (ls.take k).all (Plain.labB m) = true) (fun _ i => ls.length - (intOf i).toNat)
  case atStart => exact ⟨0, Nat.zero_le _, rfl, rfl⟩
  case round =>
    obtain ⟨k, hk, rfl, hall⟩ := hrel
    have HA := hid hall
    clear hall
    by_cases hlt : k < ls.length
    · have hlt' : (k : Int) < (ls.length : Int) := by omega
      obtain ⟨lb, lo, rfl, hcl⟩ := SL.out (by omega)
      have g := hcl k hlt
      obtain ⟨x, hx⟩ : ∃ x, x = ls.getD k 0 := ⟨_, rfl⟩
      rw [← hx] at g
      have HX := hid hx
      clear hx hcl
      by_cases c1 : x < 0
      · have HF := hid (HN.out (.inl (Plain.all_noI _ ls k hlt (by rw [← HX.out, HL.out, decide_eq_false (show ¬ 0 ≤ x by omega)]; rfl))))
        go_wp2
        go_ret
        exact ⟨by rw [HF.out]; rfl, BA.out⟩
      · by_cases c2 : (2 : Int) ^ m ≤ x
        · have HF := hid (HN.out (.inl (Plain.all_noI _ ls k hlt (by rw [← HX.out, HL.out, decide_eq_false (show ¬ x < (2 : Int) ^ m by omega), Bool.and_false]))))
          go_wp2
          go_ret
          exact ⟨by rw [HF.out]; rfl, BA.out⟩
        · go_wp2
          go_round
          case rel => exact ⟨k + 1, by omega, by go_num, Plain.all_takeI _ ls k hlt HA.out (by rw [← HX.out, HL.out, decide_eq_true (show 0 ≤ x by omega), decide_eq_true (show x < (2 : Int) ^ m by omega)]; rfl)⟩
          case measure => simp [intOf]; omega
    · have ek : k = ls.length := by omega
      subst ek
      have HA2 := hid (show ls.all (Plain.labB m) = true by have := HA.out; rwa [List.take_length] at this)
      clear HA
      go_wp2
      go_loop [6, 73] (fun _ i => ∃ k : Nat, k ≤ ms.length ∧ i = .int .i64 k ∧ (ms.take k).all Plain.cntB = true) (fun _ i => ms.length - (intOf i).toNat)
      case atStart => exact ⟨0, Nat.zero_le _, rfl, rfl⟩
      case round =>
        obtain ⟨k, hk, rfl, hall⟩ := hrel
        have HA := hid hall
        clear hall
        by_cases hlt : k < ms.length
        · have hlt' : (k : Int) < (ms.length : Int) := by omega
          obtain ⟨lb, lo, rfl, hcl⟩ := SM.out (by omega)
          have g := hcl k hlt
          obtain ⟨x, hx⟩ : ∃ x, x = ms.getD k 0 := ⟨_, rfl⟩
          rw [← hx] at g
          have HX := hid hx
          clear hx hcl
          by_cases c1 : x < 0
          · have HF := hid (HN.out (.inr (Plain.all_noI _ ms k hlt (by rw [← HX.out]; exact (Plain.inR_no x 0 1048576).2 (by omega)))))
            go_wp2
            go_ret
            exact ⟨by rw [HF.out]; rfl, BA.out⟩
          · by_cases c2 : 1048576 < x
            · have HF := hid (HN.out (.inr (Plain.all_noI _ ms k hlt (by rw [← HX.out]; exact (Plain.inR_no x 0 1048576).2 (by omega)))))
              go_wp2
              go_ret
              exact ⟨by rw [HF.out]; rfl, BA.out⟩
            · go_wp2
              go_round
              case rel => exact ⟨k + 1, by omega, by go_num, Plain.all_takeI _ ms k hlt HA.out (by rw [← HX.out]; exact (Plain.inR_iff x 0 1048576).2 (by omega))⟩
              case measure => simp [intOf]; omega
        · have ek : k = ms.length := by omega
          subst ek
          have HF := hid (HY.out HA2.out (by have := HA.out; rwa [List.take_length] at this))
          go_wp2
          go_ret
          exact ⟨by rw [HF.out]; rfl, BA.out⟩
end Go.Proofs.Ytlmiomfbpeondan
