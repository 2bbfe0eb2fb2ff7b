/-
  What Play comes to, the program's and the document's: one contract.
-/
import Derived.Test.YtlckhpfokijknadRq
import Derived.Test.YtlckhpfokijknadSt
namespace Go.Proofs.Ytlckhpfokijknad
open Go.RowKit

namespace Plain
def playV (S : Int) (l : List Ev) : List (List Int) := if playE S l = 0 then (st S.toNat l l.length).2 else []
theorem playV_len (S : Int) (l : List Ev) : (playV S l).length ≤ 200 := by
  unfold playV
  split
  · rename_i h
    unfold playE at h
    split at h
    · omega
    · split at h
      · omega
      · rename_i h1 h2
        have g := good_all (sites := S.toNat) (l := l) (n := l.length) l.length (Nat.le_refl _) (fun k hk => by
          have := firstE_zero h k hk
          rwa [show ((S.toNat : Nat) : Int) = S by omega])
        rw [g.csLen]; omega
  · simp
theorem playV_some {S : Int} {l : List Ev} (h : playV S l ≠ []) : S.toNat ≤ 8 := by
  unfold playV at h
  split at h
  · rename_i h2
    unfold playE at h2
    split at h2
    · omega
    · omega
  · exact absurd rfl h
end Plain

theorem tabZ_nil (w : World) (n : Nat) : TabZ w (.slice none 0 0) n [] := .inl ⟨rfl, _, _, rfl⟩
theorem segE_form {w : World} {v : Value} {l : List Plain.Ev} (h : SegE w v l) : ∃ p cap, v = .slice p l.length cap := by
  rcases h with ⟨rfl, p, c, rfl⟩ | ⟨b, o, c, rfl, _, _⟩
  · exact ⟨_, _, rfl⟩
  · exact ⟨_, _, rfl⟩
theorem segE_key {w : World} {v : Value} {l : List Plain.Ev} (h : SegE w v l) (hv : Lies w.heap.size v) : ∃ p cap, v = .slice p l.length cap ∧ l.length ≤ cap ∧ (0 < l.length → ∃ b off, p = some ⟨b, off, none⟩ ∧ CellsE w b off l ∧ b < w.heap.size) := by
  rcases h with ⟨rfl, p, c, rfl⟩ | ⟨b, o, c, rfl, hc, g⟩
  · exact ⟨p, c, rfl, Nat.zero_le _, fun h => by simp at h⟩
  · exact ⟨_, c, rfl, hc, fun hp => ⟨b, o, rfl, g, hv _ _ _ rfl hp⟩⟩

/-- clock.Play at whatever arguments. -/
theorem play_any (S : Int) (v : Value) (l : List Plain.Ev) (hm : l.length ≤ 9223372036854775807) (w : World) (h : SegE w v l) (hv : Lies w.heap.size v) :
    Calls Try.prog 16 #[.int .i64 S, v] w fun e w' => ∃ r, e = .returned (.tuple #[r, .int .i64 (Plain.playE S l : Nat)]) ∧ TabZ w' r S.toNat (Plain.playV S l) ∧ Below w.heap.size w w' := by
  by_cases h1 : S < 1 ∨ 8 < S
  · have e : Plain.playE S l = 2 := by unfold Plain.playE; rw [if_pos h1]
    have e2 : Plain.playV S l = [] := by unfold Plain.playV; rw [e]; rfl
    rw [e, e2]
    refine (play_far S v h1 w).mono ?_
    rintro x w' ⟨rfl, rfl⟩
    exact ⟨_, rfl, tabZ_nil _ _, Below.refl _ _⟩
  · by_cases h2 : 200 < l.length
    · have e : Plain.playE S l = 1 := by unfold Plain.playE; rw [if_neg h1, if_pos h2]
      have e2 : Plain.playV S l = [] := by unfold Plain.playV; rw [e]; rfl
      rw [e, e2]
      obtain ⟨p, cap, rfl⟩ := segE_form h
      refine (play_long S p _ cap (by omega) (by omega) h2 hm w).mono ?_
      rintro x w' ⟨rfl, rfl⟩
      exact ⟨_, rfl, tabZ_nil _ _, Below.refl _ _⟩
    · obtain ⟨n, rfl⟩ := Int.eq_ofNat_of_zero_le (show 0 ≤ S by omega)
      have e : Plain.playE (n : Int) l = Plain.firstE (Plain.evE n l) l.length := by unfold Plain.playE; rw [if_neg h1, if_neg h2]
      refine (play_good n v l (by omega) (by omega) (by omega) w h hv).mono ?_
      rintro x w' (⟨hf, r, rfl, ht, hb⟩ | ⟨hf, rfl, hb⟩)
      · have e2 : Plain.playV (n : Int) l = (Plain.st n l l.length).2 := by unfold Plain.playV; rw [e, if_pos hf]; rfl
        rw [e, hf, e2]
        exact ⟨r, rfl, .inr ht, hb⟩
      · have e2 : Plain.playV (n : Int) l = [] := by unfold Plain.playV; rw [e, if_neg hf]
        rw [e, e2]
        exact ⟨_, rfl, tabZ_nil _ _, hb⟩

set_option maxHeartbeats 1000000 in
set_option maxRecDepth 100000 in
theorem rplay_far (S : Int) (v : Value) (h : S < 1 ∨ 8 < S) (w : World) :
    Calls Try.prog 17 #[.int .i64 S, v] w fun e w' => e = .returned (.tuple #[.slice none 0 0, .int .i64 2]) ∧ w' = w := by
  rcases h with h | h
  · go_enter Try.func17, Try.ntmps17
    go_wp2
    go_ret2
    exact ⟨rfl, rfl⟩
  · have h2 : ¬ S < 1 := by omega
    go_enter Try.func17, Try.ntmps17
    go_wp2
    go_ret2
    exact ⟨rfl, rfl⟩

set_option maxHeartbeats 1000000 in
set_option maxRecDepth 100000 in
theorem rplay_long (S : Int) (p : Option Addr) (m cap : Nat) (h1 : 1 ≤ S) (h8 : S ≤ 8) (h : 200 < m) (hm : m ≤ 9223372036854775807) (w : World) :
    Calls Try.prog 17 #[.int .i64 S, .slice p m cap] w fun e w' => e = .returned (.tuple #[.slice none 0 0, .int .i64 1]) ∧ w' = w := by
  have h' : (200 : Int) < (m : Int) := by omega
  have h2 : ¬ S < 1 := by omega
  have h3 : ¬ 8 < S := by omega
  go_enter Try.func17, Try.ntmps17
  go_wp2
  go_ret2
  exact ⟨rfl, rfl⟩

/-- What the document's answer holds, as a table. -/
theorem RI.tab {n : Nat} {l : List Plain.Ev} {w0 w : World} {vh vo : Value} {gH gO : Nat → Nat} (h : RI n l.length l.length l.length l w0 w vh vo gH gO) (g : Plain.Good n l l.length l.length) : TabZ w vo n (Plain.st n l l.length).2 := by
  by_cases h0 : l.length = 0
  · left
    refine ⟨List.length_eq_zero_iff.1 (by rw [g.csLen]; exact h0), ?_⟩
    rcases h.oown.2 with ⟨rfl, _⟩ | ⟨b, c, _, rfl, _⟩
    · exact ⟨_, _, rfl⟩
    · rw [h0]; exact ⟨_, _, rfl⟩
  · right
    obtain ⟨b, c, hvo⟩ := owns_some h.oown (by omega)
    subst hvo
    refine ⟨b, c, by rw [g.csLen], (h.oown.lt b rfl).2, fun j hj => ?_⟩
    rw [g.csLen] at hj
    refine ⟨gO j, n, rvals_cell h.oown hj, RowI.of_rowIs (h.oI j hj) (by rw [g.csRow j hj]; exact Nat.le_refl _) (fun s _ => ?_), g.csRow j hj⟩
    have := Plain.counted g (Nat.le_refl _) hj s
    unfold Plain.V at this
    rw [this]

/-- ref.ClockPlayed at whatever arguments. -/
theorem rplay_any (S : Int) (v : Value) (l : List Plain.Ev) (hm : l.length ≤ 9223372036854775807) (w : World) (h : SegE w v l) (hv : Lies w.heap.size v) :
    Calls Try.prog 17 #[.int .i64 S, v] w fun e w' => ∃ r, e = .returned (.tuple #[r, .int .i64 (Plain.playE S l : Nat)]) ∧ TabZ w' r S.toNat (Plain.playV S l) ∧ Below w.heap.size w w' := by
  by_cases h1 : S < 1 ∨ 8 < S
  · have e : Plain.playE S l = 2 := by unfold Plain.playE; rw [if_pos h1]
    have e2 : Plain.playV S l = [] := by unfold Plain.playV; rw [e]; rfl
    rw [e, e2]
    refine (rplay_far S v h1 w).mono ?_
    rintro x w' ⟨rfl, rfl⟩
    exact ⟨_, rfl, tabZ_nil _ _, Below.refl _ _⟩
  · by_cases h2 : 200 < l.length
    · have e : Plain.playE S l = 1 := by unfold Plain.playE; rw [if_neg h1, if_pos h2]
      have e2 : Plain.playV S l = [] := by unfold Plain.playV; rw [e]; rfl
      rw [e, e2]
      obtain ⟨p, cap, rfl⟩ := segE_form h
      refine (rplay_long S p _ cap (by omega) (by omega) h2 hm w).mono ?_
      rintro x w' ⟨rfl, rfl⟩
      exact ⟨_, rfl, tabZ_nil _ _, Below.refl _ _⟩
    · obtain ⟨n, rfl⟩ := Int.eq_ofNat_of_zero_le (show 0 ≤ S by omega)
      have e : Plain.playE (n : Int) l = Plain.firstE (Plain.evE n l) l.length := by unfold Plain.playE; rw [if_neg h1, if_neg h2]
      obtain ⟨p, cap, rfl, hcap, hp⟩ := segE_key h hv
      refine (rplay_some n cap p l (by omega) (by omega) (by omega) hcap w hp).mono ?_
      rintro x w' (⟨hf, vh, vo, gH, gO, rfl, hr⟩ | ⟨hf, rfl, hb⟩)
      · have e2 : Plain.playV (n : Int) l = (Plain.st n l l.length).2 := by unfold Plain.playV; rw [e, if_pos hf]; rfl
        rw [e, hf, e2]
        exact ⟨vo, rfl, hr.tab (Plain.good_all (sites := n) l.length (Nat.le_refl _) (Plain.firstE_zero hf)), hr.bel⟩
      · have e2 : Plain.playV (n : Int) l = [] := by unfold Plain.playV; rw [e, if_neg hf]
        rw [e, e2]
        exact ⟨_, rfl, tabZ_nil _ _, hb⟩
end Go.Proofs.Ytlckhpfokijknad
