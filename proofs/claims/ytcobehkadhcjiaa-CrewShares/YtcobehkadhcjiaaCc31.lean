/-
  Goroutines among others: part 31 of what the law's own text rests on.
-/
import Derived.Test.YtcobehkadhcjiaaCc24
/-
  A contract of the document's ShareSplit.
-/
namespace Go.Proofs.Ytcobehkadhcjiaa.Bo
open Go.RowKit Go.Shelf

set_option maxHeartbeats 2000000 in
theorem rsplit_err (p : Option Addr) (n c : Nat) (l : List Int) (t : Int) (hE : Plain.splitE t l ≠ 0) (w : World) (hn : l.length = n) (hbig : n ≤ 9223372036854775807) (hp : Wants w p l) :
    Calls Try.prog 25 #[.int .i64 t, .slice p n c] w fun e w' =>
      e = .returned (.tuple #[.slice none 0 0, .int .i64 (Plain.splitE t l : Nat)]) ∧ w' = w := by
  have HP := hid hp
  have HN := hid hn
  clear hp
  unfold Plain.splitE at hE ⊢
  rw [hn] at hE ⊢
  clear hn
  by_cases h1 : 16 < n
  · have h1z : (16 : Int) < (n : Int) := by omega
    rw [if_pos h1]
    go_enter Try.func25, Try.ntmps25
    go_wp2
    go_ret2
    exact ⟨rfl, rfl⟩
  · have h1z : ¬ (16 : Int) < (n : Int) := by omega
    rw [if_neg h1] at hE ⊢
    by_cases hb : Plain.badC t = true
    · rw [hb, Bool.true_or, if_pos rfl]
      rw [Plain.badC_yes] at hb
      clear hE
      by_cases hb1 : t < 0
      · go_enter Try.func25, Try.ntmps25
        go_wp2
        go_ret2
        exact ⟨rfl, rfl⟩
      · have hb2 : 1048576 < t := by omega
        go_enter Try.func25, Try.ntmps25
        go_wp2
        go_ret2
        exact ⟨rfl, rfl⟩
    · rw [Bool.not_eq_true] at hb
      rw [hb, Bool.false_or] at hE ⊢
      obtain ⟨hb1, hb2⟩ := Plain.badC_no.1 hb
      have hb1' : ¬ t < 0 := by omega
      have hb2' : ¬ 1048576 < t := by omega
      have ha : l.any Plain.badC = true := by
        cases ha : l.any Plain.badC with
        | false => rw [ha] at hE; exact absurd rfl hE
        | true => rfl
      rw [ha, if_pos rfl]
      have HA := hid ha
      clear hE hb ha
      go_enter Try.func25, Try.ntmps25
      go_wp2
      go_loopg [7, 27] n (fun gg _ s27 wr => ∃ k : Nat, k ≤ n ∧ n - k ≤ gg ∧ s27 = .int .i64 k ∧ wr = w ∧ Aside (∀ j, j < k → Plain.badC (l.getD j 0) = false))
      case atStart => exact ⟨0, Nat.zero_le _, by omega, rfl, rfl, fun j hj => absurd hj (Nat.not_lt_zero _)⟩
      case round =>
        obtain ⟨k, hkk, hg, rfl, rfl, A⟩ := hrel
        by_cases hlt : k < n
        · have hltz : (k : Int) < (n : Int) := by omega
          obtain ⟨b, off, rfl, _, hc⟩ := HP.out (by rw [HN.out]; omega)
          have c0 := hc k (by rw [HN.out]; exact hlt)
          clear hc
          generalize hy : l.getD k 0 = y at c0
          have HY : Aside (l.getD k 0 = y) := hy
          clear hy
          by_cases hy1 : y < 0
          · go_wp2
            go_ret2
            exact ⟨rfl, rfl⟩
          · by_cases hy2 : 1048576 < y
            · go_wp2
              go_ret2
              exact ⟨rfl, rfl⟩
            · go_wp2
              go_roundg (n - (k + 1))
              case measure => omega
              case rel =>
                refine ⟨k + 1, by omega, by omega, by go_num, rfl, (show Aside _ from fun j hj => ?_)⟩
                by_cases e : j = k
                · subst e
                  rw [HY.out]; exact Plain.badC_no.2 ⟨by omega, by omega⟩
                · exact A.out j (by omega)
        · exfalso
          obtain ⟨x, hx, hx2⟩ := List.any_eq_true.1 HA.out
          obtain ⟨j, hj, rfl⟩ := List.getElem_of_mem hx
          have := A.out j (by rw [HN.out] at hj; omega)
          rw [Plain.getD_lt _ _ _ hj, hx2] at this
          cases this
end Go.Proofs.Ytcobehkadhcjiaa.Bo

/-
  A contract of the document's ShareSplit where nothing is refused (written by genhe.py).
-/
namespace Go.Proofs.Ytcobehkadhcjiaa.Bo
open Go.RowKit Go.Shelf

namespace Plain
theorem opn_mono (ws out : List Int) {k m : Nat} (h : k ≤ m) : opn ws out k ≤ opn ws out m := by
  induction m with
  | zero => have : k = 0 := by omega
            subst this; exact Int.le_refl _
  | succ m ih =>
    by_cases e : k = m + 1
    · subst e; exact Int.le_refl _
    · have := ih (by omega)
      simp only [opn]
      split <;> omega
end Plain
theorem row_stepG {wr : World} {k n B : Nat} {f g : Nat → Int} {x : Int} (hx : f k = x)
    (hrow : wr.rowIs B 3 n (fun j => if j < k then .int .i64 (f j) else .int .i64 (g j))) :
    (wr.setCell ⟨B, k, none⟩ (.int .i64 x)).rowIs B 3 n (fun j => if j < k + 1 then .int .i64 (f j) else .int .i64 (g j)) := by
  refine (hrow.set k (.int .i64 x)).congr fun j _ => ?_
  by_cases c : j = k
  · subst c; rw [if_pos rfl, if_pos (by omega), hx]
  · rw [if_neg c]
    by_cases d : j < k
    · rw [if_pos d, if_pos (by omega)]
    · rw [if_neg d, if_neg (by omega)]
theorem row_skipG {wr : World} {k n B : Nat} {f g : Nat → Int} (hx : f k = g k)
    (hrow : wr.rowIs B 3 n (fun j => if j < k then .int .i64 (f j) else .int .i64 (g j))) :
    wr.rowIs B 3 n (fun j => if j < k + 1 then .int .i64 (f j) else .int .i64 (g j)) := by
  refine hrow.congr fun j _ => ?_
  by_cases c : j = k
  · subst c; rw [if_neg (Nat.lt_irrefl _), if_pos (by omega), hx]
  · by_cases d : j < k
    · rw [if_pos d, if_pos (by omega)]
    · rw [if_neg d, if_neg (by omega)]

set_option maxHeartbeats 8000000 in
set_option maxRecDepth 100000 in
theorem rsplit_ok (p : Option Addr) (n c : Nat) (l : List Int) (t : Int) (hE : Plain.splitE t l = 0) (w : World) (hn : l.length = n) (hp : Wants w p l) :
    Calls Try.prog 25 #[.int .i64 t, .slice p n c] w fun e w' =>
      e = .returned (.tuple #[.slice (some ⟨w.heap.size, 0, none⟩) n n, .int .i64 0]) ∧ RowI w' w.heap.size (Plain.splitL t l) ∧ Below w.heap.size w w' := by
  obtain ⟨h16, ⟨ht0, ht1⟩, hw⟩ := Plain.splitE_zero hE
  have hn16 : n ≤ 16 := by omega
  have hn16' : ¬ (16 : Int) < (n : Int) := by omega
  have hb1' : ¬ t < 0 := by omega
  have hb2' : ¬ 1048576 < t := by omega
  have HP := hid hp
  have HN := hid hn
  have HWm := hid hw
  have START := hid (Plain.Rd.start hw ht0 ht1)
  clear hp hn hw hE h16
  have hmk := run_make_row' (P := Try.prog) 22 3 (.int .i64 0) 8 Try.underlying22 Try.infoInt rfl .i64 .i64 n (by omega) (by omega)
  go_enter Try.func25, Try.ntmps25
  go_wp2
  go_loopg [27] n (fun gg s27 wr => ∃ k : Nat, k ≤ n ∧ n - k ≤ gg ∧ s27 = .int .i64 k ∧ wr = w)
  case atStart => exact ⟨0, Nat.zero_le _, by omega, rfl, rfl⟩
  case round =>
    obtain ⟨k, hkk, hg, rfl, hwr⟩ := hrel
    have hy0 := hwr.symm; clear hwr; subst hy0
    by_cases hlt : k < n
    · have hltz : (k : Int) < (n : Int) := by omega
      obtain ⟨b, off, rfl, _, hc⟩ := HP.out (by rw [HN.out]; omega)
      have c0 := hc k (by rw [HN.out]; exact hlt)
      clear hc
      have hy := HWm.out _ (Plain.mem_getD (show k < l.length by rw [HN.out]; exact hlt))
      generalize l.getD k 0 = y at c0 hy
      obtain ⟨hy1, hy2⟩ := hy
      go_wp2
      go_roundg (n - (k + 1))
      case measure => omega
      case rel => exact ⟨k + 1, by omega, by omega, by go_num, rfl⟩
    · have hltz : ¬ (k : Int) < (n : Int) := by omega
      go_wp2
      clear hmk hn16' hb1' hb2' hlt hltz hkk hg
      go_loopg [0] t.toNat (fun gg s0 wx => ∃ (T : Int) (out : List Int), s0 = .int .i64 T ∧ T.toNat ≤ gg ∧ Aside (Plain.Rd t l T out ∧ wx.rowIs w.heap.size 3 n (fun j => .int .i64 (out.getD j 0)) ∧ Below w.heap.size w wx))
      case atStart =>
        refine ⟨t, List.replicate l.length 0, rfl, Nat.le_refl _, (show Aside _ from ⟨START.out, (World.rowIs_made w (.int .i64 0) n 3).congr fun j hj => ?_, (Below.refl _ _).alloc (Nat.le_refl _) _⟩)⟩
        simp [List.getD_eq_getElem?_getD, HN.out, hj]
      case round =>
        obtain ⟨T, out, rfl, hgT, A⟩ := hrel
        obtain ⟨wo, hwo⟩ : ∃ wo, wo = wr := ⟨_, rfl⟩
        subst hwo
        have hT0 : 0 ≤ T := A.out.1.1
        have hT1 : T ≤ 1048576 := A.out.1.2.1
        clear START
        go_wp2
        go_loopg [9, 10, 43] n (fun gg s9 s10 s43 wx => ∃ (k : Nat) (O S : Int), k ≤ n ∧ n - k ≤ gg ∧ s43 = .int .i64 k ∧ s9 = .int .i64 O ∧ s10 = .int .i64 S ∧ wx = wo ∧ Aside (O = Plain.opn l out k ∧ S = Plain.stq l out k))
        case atStart => exact ⟨0, 0, 0, Nat.zero_le _, by omega, rfl, rfl, rfl, rfl, (show Aside _ from ⟨rfl, rfl⟩)⟩
        case round =>
          obtain ⟨k, O, S, hkk, hg2, rfl, rfl, rfl, hwr, I⟩ := hrel
          have hy0 := hwr.symm; clear hwr; subst hy0
          by_cases hlt : k < n
          · have hltz : (k : Int) < (n : Int) := by omega
            have hll : k < l.length := by rw [HN.out]; exact hlt
            obtain ⟨b, off, rfl, hb, hc⟩ := (HP.out.grow A.out.2.2) (by omega)
            have c0 := hc k hll
            clear hc
            have hmid := A.out.1.2.2.2.1 k hll
            have hcl := A.out.2.1.cell hlt
            have hob := Plain.opn_bd l out k
            have hsb := Plain.stq_bd A.out.1.2.2.2.1 k (by omega)
            rw [← I.out.1] at hob
            rw [← I.out.2] at hsb
            have HO := hid (show Plain.opn l out (k + 1) = O + if out.getD k 0 < l.getD k 0 then 1 else 0 by rw [I.out.1]; rfl)
            have HS := hid (show Plain.stq l out (k + 1) = if out.getD k 0 < l.getD k 0 then (if S = 0 ∨ l.getD k 0 - out.getD k 0 < S then l.getD k 0 - out.getD k 0 else S) else S by rw [I.out.2]; rfl)
            generalize l.getD k 0 = y at c0 hmid HO HS
            generalize out.getD k 0 = x at hcl hmid HO HS
            obtain ⟨m1, m2, m3⟩ := hmid
            obtain ⟨o1, o2⟩ := hob
            obtain ⟨s1, s2⟩ := hsb
            by_cases hxy : x < y
            · have ho := HO.out
              rw [if_pos hxy] at ho
              have hs := HS.out
              rw [if_pos hxy] at hs
              have HO' := hid ho
              clear ho HO HS
              by_cases hS : S = 0
              · rw [if_pos (.inl hS)] at hs
                have HS' := hid hs
                clear hs
                subst hS
                go_wp2
                go_roundg (n - (k + 1))
                case measure => omega
                case rel => exact ⟨k + 1, O + 1, y - x, by omega, by omega, by go_num, rfl, rfl, rfl, (show Aside _ from ⟨HO'.out.symm, HS'.out.symm⟩)⟩
              · by_cases hS2 : y - x < S
                · rw [if_pos (.inr hS2)] at hs
                  have HS' := hid hs
                  clear hs
                  go_wp2
                  go_roundg (n - (k + 1))
                  case measure => omega
                  case rel => exact ⟨k + 1, O + 1, y - x, by omega, by omega, by go_num, rfl, rfl, rfl, (show Aside _ from ⟨HO'.out.symm, HS'.out.symm⟩)⟩
                · rw [if_neg (by omega)] at hs
                  have HS' := hid hs
                  clear hs
                  go_wp2
                  go_roundg (n - (k + 1))
                  case measure => omega
                  case rel => exact ⟨k + 1, O + 1, S, by omega, by omega, by go_num, rfl, rfl, rfl, (show Aside _ from ⟨HO'.out.symm, HS'.out.symm⟩)⟩
            · have ho := HO.out
              rw [if_neg hxy, Int.add_zero] at ho
              have hs := HS.out
              rw [if_neg hxy] at hs
              have HO' := hid ho
              have HS' := hid hs
              clear ho hs HO HS
              go_wp2
              go_roundg (n - (k + 1))
              case measure => omega
              case rel => exact ⟨k + 1, O, S, by omega, by omega, by go_num, rfl, rfl, rfl, (show Aside _ from ⟨HO'.out.symm, HS'.out.symm⟩)⟩
          · have hk : k = n := by omega
            have hltz : ¬ (k : Int) < (n : Int) := by omega
            have hOn : Plain.opn l out n = O := by rw [← hk]; exact I.out.1.symm
            have hSn : Plain.stq l out n = S := by rw [← hk]; exact I.out.2.symm
            have HOn := hid hOn
            have HSn := hid hSn
            have hob := Plain.opn_bd l out n
            have hsb := Plain.stq_bd A.out.1.2.2.2.1 n (by rw [HN.out]; exact Nat.le_refl _)
            rw [hOn] at hob
            rw [hSn] at hsb
            clear hOn hSn I
            obtain ⟨o1, o2⟩ := hob
            obtain ⟨s1, s2⟩ := hsb
            by_cases hO0 : O = 0
            · have DONE := hid (A.out.1.done HWm.out ht0 (.inl (by rw [HN.out, HOn.out]; exact hO0)))
              subst hO0
              go_wp2
              go_ret2
              refine ⟨rfl, ?_, A.out.2.2⟩
              rw [← DONE.out]
              exact RowI.of_rowIs A.out.2.1 (by rw [A.out.1.2.2.1, HN.out]; exact Nat.le_refl _) (fun _ _ => rfl)
            · by_cases hTz : T = 0
              · have DONE := hid (A.out.1.done HWm.out ht0 (.inr hTz))
                subst hTz
                go_wp2
                go_ret2
                refine ⟨rfl, ?_, A.out.2.2⟩
                rw [← DONE.out]
                exact RowI.of_rowIs A.out.2.1 (by rw [A.out.1.2.2.1, HN.out]; exact Nat.le_refl _) (fun _ _ => rfl)
              · have hgo := A.out.1.goes HWm.out ht0 (by rw [HN.out, HOn.out]; exact hO0) hTz
                rw [HN.out, HOn.out, HSn.out] at hgo
                obtain ⟨hS, hO, hgo⟩ := hgo
                have GO := hid hgo
                clear hgo
                have hso0 : 0 ≤ S * O := Int.mul_nonneg s1 o1
                have hso1 : S * O ≤ 16777216 := by
                  have e1 := Int.mul_le_mul_of_nonneg_right s2 o1
                  omega
                have hO' : (O == 0) = false := by rw [beq_eq_false_iff_ne]; exact hO0
                have hT' : (T == 0) = false := by rw [beq_eq_false_iff_ne]; exact hTz
                by_cases hc : T < S * O
                · obtain ⟨D, hD⟩ : ∃ D, D = T.tdiv O := ⟨_, rfl⟩
                  have hDe : D = T / O := by rw [hD, Int.tdiv_eq_ediv_of_nonneg hT0]
                  have hD0 : 0 ≤ D := by rw [hDe]; exact Int.ediv_nonneg hT0 o1
                  have hD1 : D * O ≤ T := by rw [hDe]; exact Int.ediv_mul_le T hO0
                  have hD2 : D ≤ T := by rw [hDe]; exact Int.ediv_le_self O hT0
                  have hD3 : T < (D + 1) * O := by rw [hDe]; exact Int.lt_ediv_add_one_mul_self T hO
                  have HTD := hid hD1
                  have hq : T.tdiv O = D := hD.symm
                  have hDS : D ≤ S := by
                    by_cases x : S ≤ D
                    · have := Int.mul_le_mul_of_nonneg_right x o1
                      omega
                    · omega
                  clear hD hDe hD1
                  by_cases hDz : D = 0
                  · subst hDz
                    have hTO : T < O := by omega
                    clear hD0 hD2 hD3 HTD hDS
                    go_wp2
                    go_loopg [0, 13, 95] n (fun gg s0 s13 s95 wx => ∃ (k : Nat) (T2 : Int), k ≤ n ∧ n - k ≤ gg ∧ s95 = .int .i64 k ∧ s0 = .int .i64 T2 ∧ s13 = .int .i64 T2 ∧ Aside (T2 = max (T - Plain.opn l out k) 0 ∧ wx.rowIs w.heap.size 3 n (fun j => if j < k then .int .i64 (Plain.onS l out T j) else .int .i64 (out.getD j 0)) ∧ Below w.heap.size w wx))
                    case atStart => exact ⟨0, T, Nat.zero_le _, by omega, rfl, rfl, rfl, (show Aside _ from ⟨by simp only [Plain.opn]; omega, A.out.2.1.congr fun j _ => by rw [if_neg (Nat.not_lt_zero _)], A.out.2.2⟩)⟩
                    case round =>
                      obtain ⟨k, T2, hkk, hg2, rfl, rfl, rfl, I⟩ := hrel
                      by_cases hlt : k < n
                      · have hltz : (k : Int) < (n : Int) := by omega
                        have hll : k < l.length := by rw [HN.out]; exact hlt
                        obtain ⟨b, off, rfl, hb, hc⟩ := (HP.out.grow I.out.2.2) (by omega)
                        have c0 := hc k hll
                        clear hc
                        have hmid := A.out.1.2.2.2.1 k hll
                        have hcl := I.out.2.1.cell hlt
                        rw [if_neg (Nat.lt_irrefl k)] at hcl
                        have hsz := I.out.2.1.lt
                        have hfz := I.out.2.1.frozen k
                        have HO1 := hid (show Plain.opn l out (k + 1) = Plain.opn l out k + if out.getD k 0 < l.getD k 0 then 1 else 0 from rfl)
                        have HO3 := hid (Plain.opn_bd l out k)
                        have hT2 : 0 ≤ T2 ∧ T2 ≤ T := by have := I.out.1; have := HO3.out; omega
                        have HU := hid (show Plain.onS l out T k = if out.getD k 0 < l.getD k 0 ∧ 0 < T2 then out.getD k 0 + 1 else out.getD k 0 by rw [I.out.1]; rfl)
                        generalize l.getD k 0 = y at c0 hmid HO1 HU
                        generalize hx : out.getD k 0 = x at hcl hmid HO1 HU
                        have HX := hid hx
                        clear hx
                        obtain ⟨m1, m2, m3⟩ := hmid
                        obtain ⟨t1, t2⟩ := hT2
                        by_cases hxy : x < y
                        · have o1 := HO1.out
                          rw [if_pos hxy] at o1
                          by_cases hp0 : 0 < T2
                          · have u1 := HU.out
                            rw [if_pos ⟨hxy, hp0⟩] at u1
                            have R := hid (row_stepG u1 I.out.2.1)
                            have RB := hid (I.out.2.2.setCell (p := ⟨w.heap.size, k, none⟩) (Nat.le_refl _) (.int .i64 (x + 1)))
                            have RT := hid (show T2 - 1 = max (T - Plain.opn l out (k + 1)) 0 by rw [o1]; have := I.out.1; omega)
                            clear o1 u1
                            go_wp2
                            go_roundg (n - (k + 1))
                            case measure => omega
                            case rel => exact ⟨k + 1, T2 - 1, by omega, by omega, by go_num, rfl, rfl, (show Aside _ from ⟨RT.out, R.out, RB.out⟩)⟩
                          · have u1 := HU.out
                            rw [if_neg (fun h => hp0 h.2)] at u1
                            have R := hid (row_skipG (u1.trans HX.out.symm) I.out.2.1)
                            have RT := hid (show T2 = max (T - Plain.opn l out (k + 1)) 0 by rw [o1]; have := I.out.1; omega)
                            clear o1 u1
                            go_wp2
                            go_roundg (n - (k + 1))
                            case measure => omega
                            case rel => exact ⟨k + 1, T2, by omega, by omega, by go_num, rfl, rfl, (show Aside _ from ⟨RT.out, R.out, I.out.2.2⟩)⟩
                        · have o1 := HO1.out
                          rw [if_neg hxy] at o1
                          have u1 := HU.out
                          rw [if_neg (fun h => hxy h.1)] at u1
                          have R := hid (row_skipG (u1.trans HX.out.symm) I.out.2.1)
                          have RT := hid (show T2 = max (T - Plain.opn l out (k + 1)) 0 by rw [o1, Int.add_zero]; exact I.out.1)
                          clear o1 u1
                          go_wp2
                          go_roundg (n - (k + 1))
                          case measure => omega
                          case rel => exact ⟨k + 1, T2, by omega, by omega, by go_num, rfl, rfl, (show Aside _ from ⟨RT.out, R.out, I.out.2.2⟩)⟩
                      · have hk : k = n := by omega
                        have hltz : ¬ (k : Int) < (n : Int) := by omega
                        have hT2 : T2 = 0 := by have e := I.out.1; rw [hk, HOn.out] at e; omega
                        subst hT2
                        have RD := hid (GO.out.2 hTO)
                        have RR := hid (show wr.rowIs w.heap.size 3 n (fun j => .int .i64 ((Plain.onL l out T).getD j 0)) from I.out.2.1.congr fun j hj => by rw [if_pos (by omega), Plain.onL_at l out T j (by rw [HN.out]; exact hj)])
                        go_wp2
                        go_roundg 0
                        case measure => omega
                        case rel => exact ⟨0, Plain.onL l out T, rfl, Nat.le_refl _, (show Aside _ from ⟨RD.out, RR.out, I.out.2.2⟩)⟩
                  · have hD : 0 < D := by omega
                    have GD := hid (GO.out.1 D hD hDS HTD.out)
                    clear hDz hDS hD3 hD0
                    go_wp2
                    go_loopg [0, 95] n (fun gg s0 s95 wx => ∃ (k : Nat) (T2 : Int), k ≤ n ∧ n - k ≤ gg ∧ s95 = .int .i64 k ∧ s0 = .int .i64 T2 ∧ Aside (T2 = T - D * Plain.opn l out k ∧ wx.rowIs w.heap.size 3 n (fun j => if j < k then .int .i64 (Plain.upS l out D j) else .int .i64 (out.getD j 0)) ∧ Below w.heap.size w wx))
                    case atStart => exact ⟨0, T, Nat.zero_le _, by omega, rfl, rfl, (show Aside _ from ⟨by simp [Plain.opn], A.out.2.1.congr fun j _ => by rw [if_neg (Nat.not_lt_zero _)], A.out.2.2⟩)⟩
                    case round =>
                      obtain ⟨k, T2, hkk, hg2, rfl, rfl, I⟩ := hrel
                      by_cases hlt : k < n
                      · have hltz : (k : Int) < (n : Int) := by omega
                        have hll : k < l.length := by rw [HN.out]; exact hlt
                        obtain ⟨b, off, rfl, hb, hc⟩ := (HP.out.grow I.out.2.2) (by omega)
                        have c0 := hc k hll
                        clear hc
                        have hmid := A.out.1.2.2.2.1 k hll
                        have hcl := I.out.2.1.cell hlt
                        rw [if_neg (Nat.lt_irrefl k)] at hcl
                        have hsz := I.out.2.1.lt
                        have hfz := I.out.2.1.frozen k
                        have HO1 := hid (show Plain.opn l out (k + 1) = Plain.opn l out k + if out.getD k 0 < l.getD k 0 then 1 else 0 from rfl)
                        have HO2 := hid (Plain.opn_mono l out (show k + 1 ≤ n by omega))
                        have HO3 := hid (Plain.opn_bd l out k)
                        have HU := hid (show Plain.upS l out D k = if out.getD k 0 < l.getD k 0 then out.getD k 0 + D else out.getD k 0 from rfl)
                        generalize l.getD k 0 = y at c0 hmid HO1 HU
                        generalize hx : out.getD k 0 = x at hcl hmid HO1 HU
                        have HX := hid hx
                        clear hx
                        obtain ⟨m1, m2, m3⟩ := hmid
                        by_cases hxy : x < y
                        · have o1 := HO1.out
                          rw [if_pos hxy] at o1
                          have u1 := HU.out
                          rw [if_pos hxy] at u1
                          have hTT : 0 ≤ T2 - D ∧ T2 ≤ T := by
                            have e0 := I.out.1
                            have e1 := Int.mul_le_mul_of_nonneg_left HO2.out (show 0 ≤ D by omega)
                            have e2 := Int.mul_nonneg (show 0 ≤ D by omega) HO3.out.1
                            rw [o1, Int.mul_add, Int.mul_one] at e1
                            have e3 := HTD.out
                            rw [← HOn.out] at e3
                            omega
                          have R := hid (row_stepG u1 I.out.2.1)
                          have RB := hid (I.out.2.2.setCell (p := ⟨w.heap.size, k, none⟩) (Nat.le_refl _) (.int .i64 (x + D)))
                          have RT := hid (show T2 - D = T - D * Plain.opn l out (k + 1) by rw [o1, Int.mul_add, Int.mul_one, I.out.1]; omega)
                          clear o1 u1
                          obtain ⟨t1, t2⟩ := hTT
                          go_wp2
                          go_roundg (n - (k + 1))
                          case measure => omega
                          case rel => exact ⟨k + 1, T2 - D, by omega, by omega, by go_num, rfl, (show Aside _ from ⟨RT.out, R.out, RB.out⟩)⟩
                        · have o1 := HO1.out
                          rw [if_neg hxy] at o1
                          have u1 := HU.out
                          rw [if_neg hxy] at u1
                          have R := hid (row_skipG (u1.trans HX.out.symm) I.out.2.1)
                          have RT := hid (show T2 = T - D * Plain.opn l out (k + 1) by rw [o1, Int.add_zero]; exact I.out.1)
                          clear o1 u1
                          go_wp2
                          go_roundg (n - (k + 1))
                          case measure => omega
                          case rel => exact ⟨k + 1, T2, by omega, by omega, by go_num, rfl, (show Aside _ from ⟨RT.out, R.out, I.out.2.2⟩)⟩
                      · have hk : k = n := by omega
                        have hltz : ¬ (k : Int) < (n : Int) := by omega
                        have RT : T2 = T - D * O := by rw [I.out.1, hk, HOn.out]
                        have RD := hid (GD.out)
                        rw [← RT] at RD
                        have hmul : 0 < D * O := Int.mul_pos hD hO
                        have RR := hid (show wr.rowIs w.heap.size 3 n (fun j => .int .i64 ((Plain.upL l out D).getD j 0)) from I.out.2.1.congr fun j hj => by rw [if_pos (by omega), Plain.upL_at l out D j (by rw [HN.out]; exact hj)])
                        have hT2a : 0 ≤ T2 := RD.out.1
                        have hT2b : T2 < T := by omega
                        clear RT hmul
                        go_wp2
                        go_roundg T2.toNat
                        case measure => omega
                        case rel => exact ⟨T2, Plain.upL l out D, rfl, Nat.le_refl _, (show Aside _ from ⟨RD.out, RR.out, I.out.2.2⟩)⟩
                · obtain ⟨D, hDS⟩ : ∃ D, D = S := ⟨_, rfl⟩
                  subst hDS
                  have hD : 0 < D := hS
                  have HTD := hid (show D * O ≤ T by omega)
                  have GD := hid (GO.out.1 D hD (Int.le_refl _) HTD.out)
                  go_wp2
                  go_loopg [0, 95] n (fun gg s0 s95 wx => ∃ (k : Nat) (T2 : Int), k ≤ n ∧ n - k ≤ gg ∧ s95 = .int .i64 k ∧ s0 = .int .i64 T2 ∧ Aside (T2 = T - D * Plain.opn l out k ∧ wx.rowIs w.heap.size 3 n (fun j => if j < k then .int .i64 (Plain.upS l out D j) else .int .i64 (out.getD j 0)) ∧ Below w.heap.size w wx))
                  case atStart => exact ⟨0, T, Nat.zero_le _, by omega, rfl, rfl, (show Aside _ from ⟨by simp [Plain.opn], A.out.2.1.congr fun j _ => by rw [if_neg (Nat.not_lt_zero _)], A.out.2.2⟩)⟩
                  case round =>
                    obtain ⟨k, T2, hkk, hg2, rfl, rfl, I⟩ := hrel
                    by_cases hlt : k < n
                    · have hltz : (k : Int) < (n : Int) := by omega
                      have hll : k < l.length := by rw [HN.out]; exact hlt
                      obtain ⟨b, off, rfl, hb, hc⟩ := (HP.out.grow I.out.2.2) (by omega)
                      have c0 := hc k hll
                      clear hc
                      have hmid := A.out.1.2.2.2.1 k hll
                      have hcl := I.out.2.1.cell hlt
                      rw [if_neg (Nat.lt_irrefl k)] at hcl
                      have hsz := I.out.2.1.lt
                      have hfz := I.out.2.1.frozen k
                      have HO1 := hid (show Plain.opn l out (k + 1) = Plain.opn l out k + if out.getD k 0 < l.getD k 0 then 1 else 0 from rfl)
                      have HO2 := hid (Plain.opn_mono l out (show k + 1 ≤ n by omega))
                      have HO3 := hid (Plain.opn_bd l out k)
                      have HU := hid (show Plain.upS l out D k = if out.getD k 0 < l.getD k 0 then out.getD k 0 + D else out.getD k 0 from rfl)
                      generalize l.getD k 0 = y at c0 hmid HO1 HU
                      generalize hx : out.getD k 0 = x at hcl hmid HO1 HU
                      have HX := hid hx
                      clear hx
                      obtain ⟨m1, m2, m3⟩ := hmid
                      by_cases hxy : x < y
                      · have o1 := HO1.out
                        rw [if_pos hxy] at o1
                        have u1 := HU.out
                        rw [if_pos hxy] at u1
                        have hTT : 0 ≤ T2 - D ∧ T2 ≤ T := by
                          have e0 := I.out.1
                          have e1 := Int.mul_le_mul_of_nonneg_left HO2.out (show 0 ≤ D by omega)
                          have e2 := Int.mul_nonneg (show 0 ≤ D by omega) HO3.out.1
                          rw [o1, Int.mul_add, Int.mul_one] at e1
                          have e3 := HTD.out
                          rw [← HOn.out] at e3
                          omega
                        have R := hid (row_stepG u1 I.out.2.1)
                        have RB := hid (I.out.2.2.setCell (p := ⟨w.heap.size, k, none⟩) (Nat.le_refl _) (.int .i64 (x + D)))
                        have RT := hid (show T2 - D = T - D * Plain.opn l out (k + 1) by rw [o1, Int.mul_add, Int.mul_one, I.out.1]; omega)
                        clear o1 u1
                        obtain ⟨t1, t2⟩ := hTT
                        go_wp2
                        go_roundg (n - (k + 1))
                        case measure => omega
                        case rel => exact ⟨k + 1, T2 - D, by omega, by omega, by go_num, rfl, (show Aside _ from ⟨RT.out, R.out, RB.out⟩)⟩
                      · have o1 := HO1.out
                        rw [if_neg hxy] at o1
                        have u1 := HU.out
                        rw [if_neg hxy] at u1
                        have R := hid (row_skipG (u1.trans HX.out.symm) I.out.2.1)
                        have RT := hid (show T2 = T - D * Plain.opn l out (k + 1) by rw [o1, Int.add_zero]; exact I.out.1)
                        clear o1 u1
                        go_wp2
                        go_roundg (n - (k + 1))
                        case measure => omega
                        case rel => exact ⟨k + 1, T2, by omega, by omega, by go_num, rfl, (show Aside _ from ⟨RT.out, R.out, I.out.2.2⟩)⟩
                    · have hk : k = n := by omega
                      have hltz : ¬ (k : Int) < (n : Int) := by omega
                      have RT : T2 = T - D * O := by rw [I.out.1, hk, HOn.out]
                      have RD := hid (GD.out)
                      rw [← RT] at RD
                      have hmul : 0 < D * O := Int.mul_pos hD hO
                      have RR := hid (show wr.rowIs w.heap.size 3 n (fun j => .int .i64 ((Plain.upL l out D).getD j 0)) from I.out.2.1.congr fun j hj => by rw [if_pos (by omega), Plain.upL_at l out D j (by rw [HN.out]; exact hj)])
                      have hT2a : 0 ≤ T2 := RD.out.1
                      have hT2b : T2 < T := by omega
                      clear RT hmul
                      go_wp2
                      go_roundg T2.toNat
                      case measure => omega
                      case rel => exact ⟨T2, Plain.upL l out D, rfl, Nat.le_refl _, (show Aside _ from ⟨RD.out, RR.out, I.out.2.2⟩)⟩

/-- The document's ShareSplit at whatever arguments. -/
theorem rsplit_any (v : Value) (l : List Int) (t : Int) (hbig : l.length ≤ 9223372036854775807) (w : World) (h : Seg w v l) (hv : Lies w.heap.size v) :
    Calls Try.prog 25 #[.int .i64 t, v] w fun e w' => ∃ r, e = .returned (.tuple #[r, .int .i64 (Plain.splitE t l : Nat)]) ∧ Seg w' r (Plain.splitV t l) ∧ Lies w'.heap.size r ∧ Below w.heap.size w w' := by
  obtain ⟨p, c, rfl, hp⟩ := seg_wants h hv
  by_cases he : Plain.splitE t l = 0
  · refine (rsplit_ok p l.length c l t he w rfl hp).mono ?_
    rintro e w' ⟨rfl, hr, hb⟩
    rw [he, Plain.splitV_ok he]
    have := hr.seg l.length
    rw [Plain.split_len] at this
    exact ⟨_, rfl, this, hr.lies _ _, hb⟩
  · refine (rsplit_err p l.length c l t he w rfl hbig hp).mono ?_
    rintro e w' ⟨rfl, rfl⟩
    rw [Plain.splitV_no he]
    exact ⟨_, rfl, Seg.nil _, lies_nil _ _ _, Below.refl _ _⟩
end Go.Proofs.Ytcobehkadhcjiaa.Bo
