/-
  The document's line of a step.
-/
import Derived.Test.YtaimgddhbkcikapDoorD5
import Derived.Test.YtaimgddhbkcikapDoorD7
namespace Go.Proofs.YtaimgddhbkcikapDoor
open Go Go.RowKit Go.Sort Go.Shelf
open Plain
set_option maxRecDepth 100000

theorem RowZ.cell {w : World} {b : Nat} {l : List Int} (h : w.heap[b]? = some (.cells (l.map fun n => Value.int .i64 n).toArray 3 (0, 0))) {i : Nat} (hi : i < l.length) : w.cell? ⟨b, i, none⟩ = some (.int .i64 l[i]) := by
  rw [cell_block h]
  simp [hi]
/-- A slice of numbers, open: its block, where there are some. -/
theorem RowZ.open {w : World} {v : Value} {l : List Int} (h : RowZ w v l) : ∃ p : Option Addr, v = .slice p l.length l.length ∧ (0 < l.length → ∃ b, p = some ⟨b, 0, none⟩ ∧ w.heap[b]? = some (.cells (l.map fun n => Value.int .i64 n).toArray 3 (0, 0))) := by
  rcases h with ⟨h1, h2⟩ | ⟨b, h1, h2⟩
  · exact ⟨none, by rw [h1]; exact h2, fun h => by rw [h1] at h; simp at h⟩
  · exact ⟨some ⟨b, 0, none⟩, h1, fun _ => ⟨b, rfl, h2⟩⟩
theorem cat3b (a b : List UInt8) : Value.string ((⟨a.toArray⟩ : ByteArray) ++ ((⟨#[32]⟩ : ByteArray) ++ (⟨b.toArray⟩ : ByteArray))) = bs (a ++ 32 :: b) := cat3 a b
theorem all_take {l : List Int} {i : Nat} (hi : i < l.length) (h : (l.take i).all (fun n => decide (n = 0)) = true) (hz : l[i] = 0) : (l.take (i + 1)).all (fun n => decide (n = 0)) = true := by
  rw [List.take_succ_eq_append_getElem hi, List.all_append, h]
  simp [hz]
theorem not_all {l : List Int} {i : Nat} (hi : i < l.length) (hz : l[i] ≠ 0) : l.all (fun n => decide (n = 0)) = false := by
  rw [List.all_eq_false]
  exact ⟨l[i], List.getElem_mem hi, by simpa using hz⟩

set_option maxHeartbeats 8000000 in
theorem rshow_c (s : Sp) (hs : InSp s) (w : World) : Calls Tryd.prog 8 #[.agg (stC s)] w fun e w' =>
    e = .returned (.tuple #[bs (shL s), .int .i64 (shE s)]) ∧ Below w.heap.size w w' := by
  have hk12 := kindN_lt s
  have NI := hid (nums_in hs (kindN s))
  obtain ⟨ln4, lr7⟩ := nums_len s (kindN s)
  have wl8 := (word_len (kindN s) hk12).1
  have HL := hid (shL_doc s)
  have HE := hid (shE_doc s)
  have KN := hid (fun w => named_c s w)
  have WS := hid (wordL_some (kindN s) hk12)
  obtain ⟨k, hk⟩ : ∃ k, k = kindN s := ⟨_, rfl⟩
  rw [← hk] at hk12 NI HL HE KN ln4 lr7 wl8 WS
  obtain ⟨ln, hln⟩ : ∃ ln, ln = numsK s k := ⟨_, rfl⟩
  obtain ⟨lr, hlr⟩ : ∃ lr, lr = restK s k := ⟨_, rfl⟩
  unfold NmP at KN
  rw [← hln] at NI HL KN ln4
  rw [← hlr] at HL HE KN lr7
  obtain ⟨wd, hwd⟩ : ∃ wd, wd = wordL k := ⟨_, rfl⟩
  rw [← hwd] at HL KN wl8 WS
  obtain ⟨RL, hRL⟩ : ∃ RL, RL = shL s := ⟨_, rfl⟩
  obtain ⟨RE, hRE⟩ : ∃ RE, RE = shE s := ⟨_, rfl⟩
  rw [← hRL] at HL ⊢
  rw [← hRE] at HE ⊢
  have HK0 := hid (show k = 0 → wd = [] from fun h => by rw [hwd, h]; rfl)
  clear hk hln hlr hwd hRL hRE
  obtain ⟨sc, hsc⟩ : ∃ sc, sc = stC s := ⟨_, rfl⟩
  obtain ⟨WA, hWA⟩ : ∃ WA, WA = w.alloc (.cells (stC s) 23) := ⟨_, rfl⟩
  have BA := hid (show Below w.heap.size w WA by rw [hWA]; exact (Below.refl _ _).alloc (Nat.le_refl _) _)
  have KW := hid (KN.out WA)
  rw [hWA] at KW
  clear KN hsc
  go_enter Tryd.func8, Tryd.ntmps8
  go_wp2_with fail
  refine KW.out.mono ?_
  rintro e w1 ⟨v1, v2, rfl, r1, r2, b1⟩
  rw [← hWA] at b1
  have B1 := hid (BA.out.trans (b1.mono BA.out.size))
  obtain ⟨p1, rfl, q1⟩ := r1.open
  obtain ⟨p2, rfl, q2⟩ := r2.open
  have Q1 := hid q1
  have Q2 := hid q2
  clear hWA KW r1 r2 b1 q1 q2 BA
  by_cases h0 : wd = []
  · subst h0
    have hk0 : k = 0 := by
      rcases Nat.eq_zero_or_pos k with h | h
      · exact h
      · exact absurd rfl (WS.out (by omega))
    go_wp2
    go_ret2
    refine ⟨?_, B1.out⟩
    rw [show RL = [] by rw [HL.out, if_pos hk0], show RE = 3 by rw [HE.out, if_pos hk0]]
    rfl
  · have hkn : ¬ k = 0 := fun h => h0 (HK0.out h)
    have hwe : wd.isEmpty = false := by cases wd <;> simp_all
    clear h0
    go_wp2_with fail
    go_loop [21] (fun v => ∃ i : Nat, i ≤ lr.length ∧ v = .int .i64 (i : Int) ∧ Hid ((lr.take i).all (fun n => decide (n = 0)) = true)) (fun v => lr.length - (intOf v).toNat)
    case atStart => exact ⟨0, Nat.zero_le _, rfl, hid rfl⟩
    case round =>
      obtain ⟨i, hi, rfl, HR⟩ := hrel
      by_cases hlt : i < lr.length
      · obtain ⟨b, rfl, hb⟩ := Q2.out (by omega)
        have hc := RowZ.cell hb hlt
        have hlt' : (i : Int) < (lr.length : Int) := by omega
        obtain ⟨x, hx⟩ : ∃ x, x = lr[i] := ⟨_, rfl⟩
        rw [← hx] at hc
        have HX := hid hx
        clear hb hx
        by_cases hz : x = 0
        · subst hz
          go_wp2
          go_round
          case rel => exact ⟨i + 1, by omega, by go_num, hid (all_take hlt HR.out HX.out.symm)⟩
          case measure => simp [intOf]; omega
        · have hz' : (x != 0) = true := by simpa using hz
          go_wp2
          go_ret2
          refine ⟨?_, B1.out⟩
          have hall := not_all hlt (by rw [← HX.out]; exact hz)
          rw [show RL = [] by rw [HL.out, if_neg hkn, hall]; rfl, show RE = 4 by rw [HE.out, if_neg hkn, hall]; rfl]
          rfl
      · have hlt' : ¬ ((i : Int) < (lr.length : Int)) := by omega
        have HALL := hid (show lr.all (fun n => decide (n = 0)) = true by have := HR.out; rwa [List.take_of_length_le (by omega)] at this)
        clear HR
        go_wp2_with fail
        go_loop [4, 30] (fun v4 v => ∃ i : Nat, i ≤ ln.length ∧ v = .int .i64 (i : Int) ∧ v4 = bs (wd ++ flN (ln.take i))) (fun _ v => ln.length - (intOf v).toNat)
        case atStart => exact ⟨0, Nat.zero_le _, rfl, by simp [flN]⟩
        case round =>
          obtain ⟨j, hj, rfl, rfl⟩ := hrel
          by_cases hjt : j < ln.length
          · obtain ⟨b, rfl, hb⟩ := Q1.out (by omega)
            have hc := RowZ.cell hb hjt
            have hjt' : (j : Int) < (ln.length : Int) := by omega
            obtain ⟨x, hx⟩ : ∃ x, x = ln[j] := ⟨_, rfl⟩
            rw [← hx] at hc
            have HX := hid hx
            have hin : In64 x := by rw [hx]; exact NI.out _ (List.getElem_mem hjt)
            have hil := Lib.itoa_length_le x hin.1 hin.2
            obtain ⟨acc, hacc⟩ : ∃ acc, acc = wd ++ flN (ln.take j) := ⟨_, rfl⟩
            have hal : acc.length ≤ 8 + 22 * 4 := by
              have := flN_len (l := ln.take j) fun n hn => NI.out n (List.mem_of_mem_take hn)
              rw [hacc, List.length_append]
              simp only [List.length_take] at this
              omega
            have hcat : ¬ (9223372036854775807 < acc.length + (1 + (Lib.itoa x).length)) := by omega
            have hcat1 : ¬ (9223372036854775807 < 1 + (Lib.itoa x).length) := by omega
            have KD := hid (deci_c x hin.1 hin.2 w1)
            have HA := hid (show acc ++ 32 :: Lib.itoa x = wd ++ flN (ln.take (j + 1)) by rw [flN_succ ln j hjt, hacc, ← hx, List.append_assoc])
            rw [← hacc]
            clear hb hx hil hal hin hacc
            go_wp2_with (go_at_call 15; refine KD.out.mono ?_; rintro e w2 ⟨rfl, rfl⟩)
            go_round
            case rel => exact ⟨j + 1, by omega, by go_num, by rw [← HA.out]; exact cat3 _ _⟩
            case measure => simp [intOf]; omega
          · have hjt' : ¬ ((j : Int) < (ln.length : Int)) := by omega
            have HF := hid (show ln.take j = ln from List.take_of_length_le (by omega))
            rw [HF.out]
            go_wp2
            go_ret2
            refine ⟨?_, B1.out⟩
            rw [show RL = wd ++ flN ln by rw [HL.out, if_neg hkn, HALL.out]; rfl, show RE = 0 by rw [HE.out, if_neg hkn, HALL.out]; rfl]
            rfl
end Go.Proofs.YtaimgddhbkcikapDoor
