/-
  A store's refuse.
-/
import Derived.Test.YtiolkeghgodggakGn
namespace Go.Proofs.Ytiolkeghgodggak
open Go.RowKit Go.Shelf Go.Sort

theorem labAt_lt {L : List Int} (h : ∀ x, x ∈ L → 0 ≤ x ∧ x < 256) (j : Nat) : ∃ s : Nat, Plain.labAt L j = (s : Int) ∧ s < 256 := by
  unfold Plain.labAt
  by_cases hj : j < L.length
  · have := h _ (getD_mem L 0 hj)
    exact ⟨(L.getD j 0).toNat, by omega, by omega⟩
  · rw [List.getD_eq_getElem?_getD, List.getElem?_eq_none (by omega)]
    exact ⟨0, rfl, by omega⟩

set_option maxHeartbeats 4000000 in
set_option maxRecDepth 100000 in
/-- refuse. -/
theorem refuse_c (R oo : Nat) (XX : Win) (H who : Nat) (lp : Option Addr) (lc : Nat) (L : List Int) (s : Nat → List Plain.En) (la ke : Int) (hw : who < 8) (hL4 : L.length ≤ 4) (hL : ∀ x, x ∈ L → 0 ≤ x ∧ x < 256) (w : World) (h : StI R oo XX H w who lp lc L s) :
    Calls Try.prog 48 #[.pointer (some ⟨R, oo, none⟩), .int .i64 la, .int .i64 ke] w fun e w' => e = .returned (.int .i64 (Plain.rfS L who la ke : Nat)) ∧ Below w.heap.size w w' := by
  unfold Plain.rfS
  have b1 := h.c1
  by_cases hl : 0 ≤ la ∧ la < L.length
  case neg =>
    rw [if_pos (.inl (by omega))]
    have K := fun W => place_f hl W
    clear h hL
    generalize L.length = m at *
    go_enter Try.func48, Try.ntmps48
    go_wp2_with (first | (go_at_call 36; refine (K _).mono ?_; rintro e w' ⟨rfl, rfl⟩) | fail)
    go_ret
    exact ⟨rfl, Below.refl _ _⟩
  by_cases hk : 0 ≤ ke ∧ ke < 8
  case neg =>
    rw [if_pos (.inr (by omega))]
    have K1 := fun W => place_t hl W
    have K2 := fun W => place_f hk W
    clear h hL
    generalize L.length = m at *
    go_enter Try.func48, Try.ntmps48
    go_wp2_with (first | (go_at_call_of 36 (Value.int .i64 la); refine (K1 _).mono ?_; rintro e w' ⟨rfl, rfl⟩) | (go_at_call_of 36 (Value.int .i64 ke); refine (K2 _).mono ?_; rintro e w' ⟨rfl, rfl⟩) | fail)
    go_ret
    exact ⟨rfl, Below.refl _ _⟩
  rw [if_neg (by omega)]
  have K1 := fun W => place_t hl W
  have K2 := fun W => place_t hk W
  obtain ⟨z, ez, hz⟩ := labAt_lt hL la.toNat
  rw [ez]
  obtain ⟨lb, lo, rfl, hlb, hlc⟩ := h.lab (by omega)
  have lcell := hlc la.toNat (by omega)
  rw [show L.getD la.toNat 0 = Plain.labAt L la.toNat from rfl, ez] at lcell
  have b0 := h.c0
  have KM := fun W => mayRead_yes (2 ^ who) z (LabP.pow_lt hw) hz W
  rw [LabP.inB_one] at KM
  have hpz : ((2 ^ who : Nat) : Int) = (2 : Int) ^ who := by simp
  have hp0 : (0 : Int) ≤ 2 ^ who := Int.pow_nonneg (by decide)
  have hp : (2 : Int) ^ who ≤ 128 := by
    have h2 : 2 ^ who ≤ 2 ^ 7 := Nat.pow_le_pow_right (by decide) (by omega)
    omega
  rw [hpz] at KM
  obtain ⟨r, hr⟩ : ∃ r, Plain.reads (z : Int) who = r := ⟨_, rfl⟩
  rw [hr] at KM ⊢
  obtain ⟨j, rfl⟩ : ∃ j : Nat, la = (j : Int) := ⟨la.toNat, by omega⟩
  rw [Int.toNat_natCast] at lcell
  have hjz : (j : Int) < (L.length : Int) := hl.2
  have HPW := hid hpz
  clear h hL hlc hr ez hpz
  generalize L.length = m at *
  go_enter Try.func48, Try.ntmps48
  go_wp2_with (first | (go_at_call_of 36 (Value.int .i64 (j : Int)); refine (K1 _).mono ?_; rintro e w' ⟨rfl, rfl⟩) | (go_at_call_of 36 (Value.int .i64 ke); refine (K2 _).mono ?_; rintro e w' ⟨rfl, rfl⟩) | fail)
  go_quiet ((go_at_call 22; exact Calls.quiet_of_same (KM _)))
  cases r with
  | true =>
    go_wp2
    go_ret
    exact ⟨rfl, below_drewN (Below.refl _ _) _⟩
  | false =>
    go_wp2
    go_ret
    exact ⟨rfl, below_drewN (Below.refl _ _) _⟩
end Go.Proofs.Ytiolkeghgodggak
