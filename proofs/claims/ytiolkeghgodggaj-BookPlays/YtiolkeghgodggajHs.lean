/-
  Contracts of sort.Search with the literal of share.Split, and of share.Split.
-/
import Derived.Test.YtiolkeghgodggajHc
namespace Go.Proofs.Ytiolkeghgodggaj.Bo
open Go.RowKit Go.Shelf

theorem drewN_add (w : World) (p q : Nat) : (w.drewN p).drewN q = w.drewN (p + q) := by simp

set_option maxHeartbeats 2000000 in
theorem search_c (bw bt : Nat) (p : Option Addr) (c : Nat) (l : List Int) (t : Int) (hw : Plain.Wm l) (w : World) (hbig : l.length ≤ 16) (hp : Wants w p l)
    (hb : w.cell? ⟨bw, 0, none⟩ = some (.slice p l.length c)) (ht : w.cell? ⟨bt, 0, none⟩ = some (.int .i64 t)) :
    Calls Try.prog 46 #[.int .i64 1048576, .func (.func 47) #[] #[.pointer (some ⟨bw, 0, none⟩), .pointer (some ⟨bt, 0, none⟩)]] w fun e w' =>
      ∃ s q : Nat, e = .returned (.int .i64 s) ∧ w' = w.drewN q ∧ s ≤ 1048576 ∧ (∀ i : Nat, i < s → decide (t < Plain.sm ((i : Int) + 1) l) = false) ∧ (∀ i : Nat, s ≤ i → i < 1048576 → decide (t < Plain.sm ((i : Int) + 1) l) = true) := by
  have K : Aside (∀ (q i : Nat), i < 1048576 → Calls Try.prog 47 #[.int .i64 i, .pointer (some ⟨bw, 0, none⟩), .pointer (some ⟨bt, 0, none⟩)] (w.drewN q) fun e w' => e = .returned (.bool (decide (t < Plain.sm ((i : Int) + 1) l))) ∧ ∃ q', w' = (w.drewN q).drewN q') :=
    fun q i hi => more_c bw bt p c l t i hi hw (w.drewN q) hbig (hp.drew q) (by simpa using hb) (by simpa using ht)
  have M : Aside (∀ i j : Nat, i ≤ j → decide (t < Plain.sm ((i : Int) + 1) l) = true → decide (t < Plain.sm ((j : Int) + 1) l) = true) := fun i j hij h => by
    rw [decide_eq_true_iff] at h ⊢
    have := Plain.sm_mono (show (i : Int) + 1 ≤ (j : Int) + 1 by omega) l
    omega
  clear hp hw hb ht hbig
  obtain ⟨P, hP⟩ : ∃ P : Nat → Bool, P = fun i : Nat => decide (t < Plain.sm ((i : Int) + 1) l) := ⟨_, rfl⟩
  have e : ∀ i : Nat, decide (t < Plain.sm ((i : Int) + 1) l) = P i := fun i => by rw [hP]
  simp only [e] at K M ⊢
  clear e hP
  go_enter Try.func46, Try.ntmps46
  go_wp2
  go_loopg [5, 6] 1048576 (fun gg s5 s6 wr => ∃ lo hi q : Nat, s5 = .int .i64 lo ∧ s6 = .int .i64 hi ∧ lo ≤ hi ∧ hi ≤ 1048576 ∧ hi - lo ≤ gg ∧ wr = w.drewN q ∧ Aside ((∀ i : Nat, i < lo → P i = false) ∧ (∀ i : Nat, hi ≤ i → i < 1048576 → P i = true)))
  case atStart => exact ⟨0, 1048576, 0, rfl, rfl, Nat.zero_le _, Nat.le_refl _, by omega, rfl, (show Aside _ from ⟨fun i hi => absurd hi (Nat.not_lt_zero _), fun i h1 h2 => by omega⟩)⟩
  case round =>
    obtain ⟨lo, hi, q, rfl, rfl, hlh, hin, hg, rfl, I⟩ := hrel
    by_cases hlt : lo < hi
    · have hc := K.out q ((lo + hi) / 2) (by omega)
      rw [show (((lo + hi) / 2 : Nat) : Int) = ((lo : Int) + (hi : Int)) / 2 by omega] at hc
      cases hp : P ((lo + hi) / 2) <;> rw [hp] at hc
      · have HP : Aside (P ((lo + hi) / 2) = false) := hp
        clear hp
        go_wp2_with (go_at_call 47; refine hc.mono ?_; rintro e w' ⟨rfl, nq, rfl⟩)
        go_roundg (hi - ((lo + hi) / 2 + 1))
        case measure => omega
        case rel =>
          refine ⟨(lo + hi) / 2 + 1, hi, q + nq, by rw [show ((lo : Int) + (hi : Int)) / 2 + 1 = (((lo + hi) / 2 + 1 : Nat) : Int) by omega], rfl, by omega, hin, Nat.le_refl _, rfl, (show Aside _ from ⟨fun i hi2 => ?_, I.out.2⟩)⟩
          cases h : P i with
          | false => rfl
          | true => have := M.out i ((lo + hi) / 2) (by omega) h; rw [HP.out] at this; cases this
      · have HP : Aside (P ((lo + hi) / 2) = true) := hp
        clear hp
        go_wp2_with (go_at_call 47; refine hc.mono ?_; rintro e w' ⟨rfl, nq, rfl⟩)
        go_roundg ((lo + hi) / 2 - lo)
        case measure => omega
        case rel =>
          exact ⟨lo, (lo + hi) / 2, q + nq, rfl, by rw [show ((lo : Int) + (hi : Int)) / 2 = (((lo + hi) / 2 : Nat) : Int) by omega], by omega, by omega, Nat.le_refl _, rfl, (show Aside _ from ⟨I.out.1, fun i h1 h2 => M.out ((lo + hi) / 2) i h1 HP.out⟩)⟩
    · obtain rfl : hi = lo := by omega
      go_wp2
      go_ret
      exact ⟨hi, q, rfl, rfl, hin, I.out.1, I.out.2⟩
end Go.Proofs.Ytiolkeghgodggaj.Bo
