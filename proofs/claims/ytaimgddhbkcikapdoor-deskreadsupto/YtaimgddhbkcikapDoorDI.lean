/-
  The document's number of digits.
-/
import Derived.Test.YtaimgddhbkcikapDoorDG
import Derived.Test.YtaimgddhbkcikapDoorD5
namespace Go.Proofs.YtaimgddhbkcikapDoor
open Go Go.RowKit Go.Sort Go.Shelf
open Plain
set_option maxRecDepth 100000

theorem str_index (l : List UInt8) (i : Nat) (hi : i < l.length) (w : World) : (Instr.index 9 (bs l) (.int .i64 (i : Int))).run Tryd.prog w = .ok (.int .u8 ((l[i]).toNat : Int)) w := by
  have u := Tryd.underlying9
  simp only [Instr.index, asIntOf, Sem.run_bind, Sem.run_pure, Result.andThen_ok, run_underlying u]
  rw [if_pos (by omega)]
  have : (⟨l.toArray⟩ : ByteArray)[(i : Int).toNat]? = some l[i] := by
    rw [Int.toNat_natCast]
    rw [getElem?_pos (⟨l.toArray⟩ : ByteArray) i (by simpa [ByteArray.size] using hi)]
    rfl
  rw [this]
  rfl
/-- What stands in n behind i signs of a number's digits. -/
def pref (m : Int) (i : Nat) : Int :=
  if m < 0 then -((m.natAbs / 10 ^ (Lib.nDigits m.natAbs - (i - 1)) : Nat) : Int) else ((m.toNat / 10 ^ (Lib.nDigits m.toNat - i) : Nat) : Int)
def Pf (l : List UInt8) (i : Nat) (n : Int) : Prop := In64 n ∧ ∀ m, In64 m → l = Lib.itoa m → n = pref m i
def canon (l : List UInt8) : Bool := decide (Lib.itoa (atoV l) = l)
def UnP (l : List UInt8) (w : World) (e : Ending) (w' : World) : Prop := ∃ n, e = .returned (.tuple #[.int .i64 n, .bool (canon l)]) ∧ w' = w ∧ (canon l = true → n = atoV l)

theorem wrap_in (x : Int) : In64 (wrap64 x) := by unfold In64 wrap64; omega
theorem wrap_id {x : Int} (h : In64 x) : wrap64 x = x := by unfold In64 at h; unfold wrap64; omega
theorem pref_zero (m : Int) : pref m 0 = 0 := by
  unfold pref
  split
  · rw [Nat.zero_sub, Nat.sub_zero, Nat.div_eq_of_lt (Lib.lt_pow_nDigits _)]; rfl
  · rw [Nat.sub_zero, Nat.div_eq_of_lt (Lib.lt_pow_nDigits _)]; rfl
theorem pf_start (l : List UInt8) : Pf l 0 0 := ⟨by unfold In64; omega, fun m _ _ => (pref_zero m).symm⟩
theorem itoa_neg {m : Int} (h : m < 0) : Lib.itoa m = 45 :: Lib.decDigits m.natAbs := by unfold Lib.itoa; rw [if_pos h]
theorem itoa_pos {m : Int} (h : ¬ m < 0) : Lib.itoa m = Lib.decDigits m.toNat := by unfold Lib.itoa; rw [if_neg h]
theorem first_neg {m : Int} (h0 : 0 < (Lib.itoa m).length) (h : ((Lib.itoa m)[0]).toNat = 45) : m < 0 := by
  rcases Int.lt_or_le m 0 with hm | hm
  · exact hm
  · exfalso
    have e := itoa_pos (m := m) (by omega)
    have hd := dec_digits m.toNat ((Lib.itoa m)[0]) (by rw [← e]; exact List.getElem_mem _)
    omega
theorem first_pos {m : Int} (h0 : 0 < (Lib.itoa m).length) (h : ((Lib.itoa m)[0]).toNat ≠ 45) : ¬ m < 0 := fun hm => by
  apply h
  have e := itoa_neg hm
  have : (Lib.itoa m)[0]? = some 45 := by rw [e]; rfl
  rw [List.getElem?_eq_getElem h0, Option.some.injEq] at this
  rw [this]
  rfl
theorem pf_minus {l : List UInt8} (h0 : 0 < l.length) (h : (l[0]).toNat = 45) : Pf l 1 0 := by
  refine ⟨by unfold In64; omega, fun m _ e => ?_⟩
  subst e
  have hm := first_neg h0 h
  unfold pref
  rw [if_pos hm, Nat.sub_self, Nat.sub_zero, Nat.div_eq_of_lt (Lib.lt_pow_nDigits _)]
  rfl
theorem dd_get (u t : Nat) (h : t < (Lib.decDigits u).length) : ((Lib.decDigits u)[t]).toNat = 48 + u / 10 ^ (Lib.nDigits u - 1 - t) % 10 := by
  have e : (Lib.decDigits u)[t]? = some (Lib.dg u (Lib.nDigits u - 1 - t)) := by
    rw [Lib.decDigits_eq]
    rw [Lib.decDigits_length] at h
    simp [h]
  rw [List.getElem?_eq_getElem h, Option.some.injEq] at e
  rw [e]
  unfold Lib.dg
  rw [UInt8.toNat_ofNat']
  have := Nat.mod_lt (u / 10 ^ (Lib.nDigits u - 1 - t)) (show 0 < 10 by omega)
  omega
theorem div_step (u k : Nat) : u / 10 ^ k = 10 * (u / 10 ^ (k + 1)) + u / 10 ^ k % 10 := by
  rw [Nat.pow_succ, ← Nat.div_div_eq_div_mul]
  omega
theorem div_le' (u k : Nat) : u / 10 ^ k ≤ u := Nat.div_le_self _ _
theorem pf_neg {l : List UInt8} {i : Nat} {n : Int} (h : Pf l i n) (hi : i < l.length) (h1 : 1 ≤ i) (h0 : (l[0]'(by omega)).toNat = 45) : Pf l (i + 1) (wrap64 (wrap64 (10 * n) - (((l[i]).toNat : Int) - 48))) := by
  refine ⟨wrap_in _, fun m hm e => ?_⟩
  have hn := h.2 m hm e
  subst e
  have hneg := first_neg (by omega) h0
  have e2 := itoa_neg hneg
  obtain ⟨t, rfl⟩ : ∃ t, i = t + 1 := ⟨i - 1, by omega⟩
  have hg : (Lib.itoa m)[t + 1]? = (Lib.decDigits m.natAbs)[t]? := by rw [e2]; rfl
  have hlen : (Lib.itoa m).length = (Lib.decDigits m.natAbs).length + 1 := by rw [e2]; rfl
  rw [List.getElem?_eq_getElem hi, List.getElem?_eq_getElem (by omega), Option.some.injEq] at hg
  have hd := dd_get m.natAbs t (by omega)
  rw [← hg] at hd
  rw [Lib.decDigits_length] at hlen
  rw [hd, hn]
  unfold pref
  rw [if_pos hneg, if_pos hneg]
  simp only [Nat.add_sub_cancel]
  have hs := div_step m.natAbs (Lib.nDigits m.natAbs - 1 - t)
  rw [show Lib.nDigits m.natAbs - 1 - t + 1 = Lib.nDigits m.natAbs - t by omega] at hs
  have hb := div_le' m.natAbs (Lib.nDigits m.natAbs - 1 - t)
  rw [show Lib.nDigits m.natAbs - (t + 1) = Lib.nDigits m.natAbs - 1 - t by omega]
  generalize m.natAbs / 10 ^ (Lib.nDigits m.natAbs - 1 - t) = q at *
  generalize m.natAbs / 10 ^ (Lib.nDigits m.natAbs - t) = p at *
  have hu : m.natAbs ≤ 9223372036854775808 := by unfold In64 at hm; omega
  have hq : q ≤ 9223372036854775808 := Nat.le_trans hb hu
  have a1 : In64 (10 * -(p : Int)) := by unfold In64; omega
  have a2 : 10 * -(p : Int) - (((48 + q % 10 : Nat) : Int) - 48) = -(q : Int) := by omega
  rw [wrap_id a1, a2, wrap_id (by unfold In64; omega)]
theorem pf_pos {l : List UInt8} {i : Nat} {n : Int} (h : Pf l i n) (hi : i < l.length) (h0 : (l[0]'(by omega)).toNat ≠ 45) : Pf l (i + 1) (wrap64 (wrap64 (10 * n) + (((l[i]).toNat : Int) - 48))) := by
  refine ⟨wrap_in _, fun m hm e => ?_⟩
  have hn := h.2 m hm e
  subst e
  have hneg := first_pos (by omega) h0
  have e2 := itoa_pos hneg
  have hg : (Lib.itoa m)[i]? = (Lib.decDigits m.toNat)[i]? := by rw [e2]
  have hlen : (Lib.itoa m).length = (Lib.decDigits m.toNat).length := by rw [e2]
  rw [List.getElem?_eq_getElem hi, List.getElem?_eq_getElem (by omega), Option.some.injEq] at hg
  have hd := dd_get m.toNat i (by omega)
  rw [← hg] at hd
  rw [Lib.decDigits_length] at hlen
  rw [hd, hn]
  unfold pref
  rw [if_neg hneg, if_neg hneg]
  have hs := div_step m.toNat (Lib.nDigits m.toNat - 1 - i)
  rw [show Lib.nDigits m.toNat - 1 - i + 1 = Lib.nDigits m.toNat - i by omega] at hs
  have hb := div_le' m.toNat (Lib.nDigits m.toNat - 1 - i)
  rw [show Lib.nDigits m.toNat - (i + 1) = Lib.nDigits m.toNat - 1 - i by omega]
  generalize m.toNat / 10 ^ (Lib.nDigits m.toNat - 1 - i) = q at *
  generalize m.toNat / 10 ^ (Lib.nDigits m.toNat - i) = p at *
  have hu : m.toNat ≤ 9223372036854775807 := by unfold In64 at hm; omega
  have hq : q ≤ 9223372036854775807 := Nat.le_trans hb hu
  have a1 : In64 (10 * (p : Int)) := by unfold In64; omega
  have a2 : 10 * (p : Int) + (((48 + q % 10 : Nat) : Int) - 48) = (q : Int) := by omega
  rw [wrap_id a1, a2, wrap_id (by unfold In64; omega)]
theorem canon_some {l : List UInt8} (h : canon l = true) : ∃ m, In64 m ∧ l = Lib.itoa m ∧ m = atoV l := ⟨atoV l, atoV_in l, (of_decide_eq_true h).symm, rfl⟩
theorem canon_itoa {m : Int} (h : In64 m) : canon (Lib.itoa m) = true := by
  unfold canon
  rw [atoV_itoa m h]
  simp
theorem not_canon {l : List UInt8} (h : ∀ m, In64 m → l ≠ Lib.itoa m) : canon l = false := by
  cases hc : canon l with
  | false => rfl
  | true =>
    obtain ⟨m, hm, e, _⟩ := canon_some hc
    exact absurd e (h m hm)
theorem bad_sign {l : List UInt8} {i : Nat} (hi : i < l.length) (h : (l[i]).toNat < 48 ∨ 57 < (l[i]).toNat) (h1 : ¬ (i = 0 ∧ (l[i]).toNat = 45)) : canon l = false := not_canon fun m hm e => by
  subst e
  by_cases hneg : m < 0
  · have e2 := itoa_neg hneg
    cases i with
    | zero =>
      apply h1
      refine ⟨rfl, ?_⟩
      have : (Lib.itoa m)[0]? = some 45 := by rw [e2]; rfl
      rw [List.getElem?_eq_getElem hi, Option.some.injEq] at this
      rw [this]
      rfl
    | succ t =>
      have hg : (Lib.itoa m)[t + 1]? = (Lib.decDigits m.natAbs)[t]? := by rw [e2]; rfl
      have hlen : (Lib.itoa m).length = (Lib.decDigits m.natAbs).length + 1 := by rw [e2]; rfl
      rw [List.getElem?_eq_getElem hi, List.getElem?_eq_getElem (by omega), Option.some.injEq] at hg
      have := dec_digits m.natAbs _ (List.getElem_mem (l := Lib.decDigits m.natAbs) (n := t) (by omega))
      rw [← hg] at this
      omega
  · have e2 := itoa_pos hneg
    have := dec_digits m.toNat ((Lib.itoa m)[i]) (by rw [← e2]; exact List.getElem_mem _)
    omega
theorem long_sign {l : List UInt8} {i : Nat} (hi : i < l.length) (h : 20 < i) : canon l = false := not_canon fun m hm e => by
  have := Lib.itoa_length_le m hm.1 hm.2
  rw [← e] at this
  omega
theorem pf_end {l : List UInt8} {n : Int} (h : Pf l l.length n) : (Lib.itoa n == l) = canon l ∧ (canon l = true → n = atoV l) := by
  cases hc : canon l with
  | true =>
    obtain ⟨m, hm, e, hv⟩ := canon_some hc
    have hn := h.2 m hm e
    have hpm : pref m l.length = m := by
      unfold pref
      split
      · rename_i hneg
        have : l.length = Lib.nDigits m.natAbs + 1 := by rw [e, itoa_neg hneg, List.length_cons, Lib.decDigits_length]
        rw [this, Nat.add_sub_cancel, Nat.sub_self, Nat.pow_zero, Nat.div_one]
        omega
      · rename_i hneg
        have : l.length = Lib.nDigits m.toNat := by rw [e, itoa_pos hneg, Lib.decDigits_length]
        rw [this, Nat.sub_self, Nat.pow_zero, Nat.div_one]
        omega
    rw [hpm] at hn
    refine ⟨?_, fun _ => by rw [hn]; exact hv⟩
    rw [hn, ← e]
    simp
  | false =>
    refine ⟨?_, fun h => by cases h⟩
    rw [beq_eq_false_iff_ne]
    intro e
    have := canon_itoa h.1
    rw [e, hc] at this
    cases this

set_option maxHeartbeats 8000000 in
theorem undeci_c (l : List UInt8) (hl : l.length ≤ 281474976710656) (w : World) : Calls Tryd.prog 17 #[bs l] w (UnP l w) := by
  unfold UnP
  obtain ⟨CN, hCN⟩ : ∃ CN, CN = canon l := ⟨_, rfl⟩
  have HCN := hid hCN
  rw [← hCN]
  clear hCN
  go_enter Tryd.func17, Tryd.ntmps17
  go_wp2_with fail
  go_loop [4, 5] (fun v4 v5 => ∃ (i : Nat) (n : Int), i ≤ l.length ∧ v5 = .int .i64 (i : Int) ∧ v4 = .int .i64 n ∧ Hid (Pf l i n) ∧ Hid (i = 0 → n = 0)) (fun _ v5 => l.length - (intOf v5).toNat)
  case atStart => exact ⟨0, 0, Nat.zero_le _, rfl, rfl, hid (pf_start l), hid fun _ => rfl⟩
  case round =>
    obtain ⟨i, n, hi, rfl, rfl, HR, HZ⟩ := hrel
    by_cases hlt : i < l.length
    · have hlt' : (i : Int) < (l.length : Int) := by omega
      have hpos : (0 : Int) < (l.length : Int) := by omega
      have h00 : 0 < l.length := by omega
      obtain ⟨c, hc⟩ : ∃ c, c = (l[i]).toNat := ⟨_, rfl⟩
      obtain ⟨c0, hc0⟩ : ∃ c0, c0 = (l[0]).toNat := ⟨_, rfl⟩
      have hidx := fun w => str_index l i hlt w
      have hidx0 : ∀ w, (Instr.index 9 (bs l) (.int .i64 0)).run Tryd.prog w = .ok (.int .u8 ((l[0]).toNat : Int)) w := fun w => str_index l 0 (by omega) w
      rw [← hc] at hidx
      rw [← hc0] at hidx0
      have HC := hid hc
      have HC0 := hid hc0
      clear hc hc0
      by_cases h1 : i = 0
      · subst h1
        have ec : c = c0 := by rw [HC.out, HC0.out]
        subst ec
        clear hidx
        by_cases h5 : c = 45
        · have h5' : ((c : Int) == 45) = true := by rw [h5]; rfl
          go_wp2_with fail
          refine ⟨⟨1, 0, by omega, by go_num, ?_, hid (pf_minus h00 (by rw [← HC.out]; exact h5)), hid fun h => by omega⟩, ?_⟩
          · rw [HZ.out rfl]
          · simp [intOf]; omega
        · have h5' : ((c : Int) == 45) = false := by rw [beq_eq_false_iff_ne]; omega
          by_cases h2 : (c : Int) < 48
          · have hcn : CN = false := by rw [HCN.out]; exact bad_sign (i := 0) h00 (by rw [← HC.out]; omega) (by rw [← HC.out]; omega)
            subst hcn
            go_wp2
            go_ret2
            first | exact ⟨0, rfl, rfl, fun h => by cases h⟩ | exact ⟨⟨0, rfl⟩, rfl⟩ | exact ⟨0, rfl⟩
          · by_cases h3 : 57 < (c : Int)
            · have hcn : CN = false := by rw [HCN.out]; exact bad_sign (i := 0) h00 (by rw [← HC.out]; omega) (by rw [← HC.out]; omega)
              subst hcn
              go_wp2
              go_ret2
              first | exact ⟨0, rfl, rfl, fun h => by cases h⟩ | exact ⟨⟨0, rfl⟩, rfl⟩ | exact ⟨0, rfl⟩
            · have HP := hid (pf_pos HR.out h00 (by rw [← HC.out]; exact h5))
              rw [← HC.out] at HP
              go_wp2_with fail
              refine ⟨⟨1, _, by omega, by go_num, rfl, HP, hid fun h => by omega⟩, ?_⟩
              simp [intOf]; omega
      · have h1' : ((i : Int) == 0) = false := by rw [beq_eq_false_iff_ne]; omega
        by_cases h2 : (c : Int) < 48
        · have hcn : CN = false := by rw [HCN.out]; exact bad_sign hlt (by rw [← HC.out]; omega) (by omega)
          subst hcn
          go_wp2
          go_ret2
          first | exact ⟨0, rfl, rfl, fun h => by cases h⟩ | exact ⟨⟨0, rfl⟩, rfl⟩ | exact ⟨0, rfl⟩
        · by_cases h3 : 57 < (c : Int)
          · have hcn : CN = false := by rw [HCN.out]; exact bad_sign hlt (by rw [← HC.out]; omega) (by omega)
            subst hcn
            go_wp2
            go_ret2
            first | exact ⟨0, rfl, rfl, fun h => by cases h⟩ | exact ⟨⟨0, rfl⟩, rfl⟩ | exact ⟨0, rfl⟩
          · by_cases h4 : 20 < (i : Int)
            · have hcn : CN = false := by rw [HCN.out]; exact long_sign hlt (by omega)
              subst hcn
              go_wp2
              go_ret2
              first | exact ⟨0, rfl, rfl, fun h => by cases h⟩ | exact ⟨⟨0, rfl⟩, rfl⟩ | exact ⟨0, rfl⟩
            · by_cases h5 : c0 = 45
              · have h5' : ((c0 : Int) == 45) = true := by rw [h5]; rfl
                have HP := hid (pf_neg HR.out hlt (by omega) (by rw [← HC0.out]; exact h5))
                rw [← HC.out] at HP
                go_wp2_with fail
                refine ⟨⟨i + 1, _, by omega, by go_num, rfl, HP, hid fun h => by omega⟩, ?_⟩
                simp [intOf]; omega
              · have h5' : ((c0 : Int) == 45) = false := by rw [beq_eq_false_iff_ne]; omega
                have HP := hid (pf_pos HR.out hlt (by rw [← HC0.out]; exact h5))
                rw [← HC.out] at HP
                go_wp2_with fail
                refine ⟨⟨i + 1, _, by omega, by go_num, rfl, HP, hid fun h => by omega⟩, ?_⟩
                simp [intOf]; omega
    · have hlt' : ¬ ((i : Int) < (l.length : Int)) := by omega
      obtain rfl : i = l.length := by omega
      obtain ⟨e1, e2⟩ := pf_end HR.out
      have KD := hid (deci_c n HR.out.1.1 HR.out.1.2 w)
      have E1 := hid e1
      have E2 := hid e2
      clear e1 e2
      go_wp2_with (go_at_call 15; refine KD.out.mono ?_; rintro e w' ⟨rfl, rfl⟩)
      go_ret2
      refine ⟨n, ?_, rfl, fun h => E2.out (by rw [← HCN.out]; exact h)⟩
      rw [HCN.out, ← E1.out]
      rfl
end Go.Proofs.YtaimgddhbkcikapDoor
