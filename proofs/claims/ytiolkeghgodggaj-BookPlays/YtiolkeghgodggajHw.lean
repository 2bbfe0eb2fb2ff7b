/-
  share.Split at whatever arguments.
-/
import Derived.Test.YtiolkeghgodggajHv
namespace Go.Proofs.Ytiolkeghgodggaj.Bo
open Go.RowKit Go.Shelf

set_option maxHeartbeats 2000000 in
theorem split_err (p : Option Addr) (n c : Nat) (l : List Int) (t : Int) (hE : Plain.splitE t l ≠ 0) (w : World) (hn : l.length = n) (hbig : n ≤ 9223372036854775807) (hp : Wants w p l) :
    Calls Try.prog 41 #[.int .i64 t, .slice p n c] w fun e w' =>
      e = .returned (.tuple #[.slice none 0 0, .int .i64 (Plain.splitE t l : Nat)]) ∧ Below w.heap.size w w' := by
  obtain ⟨W, hW⟩ : ∃ W, W = (w.alloc (boxI t)).alloc (boxS (.slice p n c)) := ⟨_, rfl⟩
  have bel : Below w.heap.size w W := by rw [hW]; exact ((Below.refl _ _).alloc (Nat.le_refl _) _).alloc (by simp) _
  have K1 := isCount_c t W
  have K2 := containsC p n c l W hn (by omega) (hp.grow bel)
  rw [hW] at K1 K2
  have HB := hid (show Below w.heap.size w ((w.alloc (boxI t)).alloc (boxS (.slice p n c))) by rw [← hW]; exact bel)
  clear hW bel hp
  unfold Plain.splitE at hE ⊢
  rw [hn] at hE ⊢
  clear hn
  by_cases h1 : 16 < n
  · have h1z : (16 : Int) < (n : Int) := by omega
    rw [if_pos h1]
    go_enter Try.func41, Try.ntmps41
    go_wp2
    go_ret2
    exact ⟨rfl, HB.out⟩
  · have h1z : ¬ (16 : Int) < (n : Int) := by omega
    rw [if_neg h1] at hE ⊢
    cases hb : Plain.badC t with
    | true =>
      rw [hb] at K1
      rw [Bool.true_or, if_pos rfl]
      clear hE hb K2
      go_enter Try.func41, Try.ntmps41
      go_wp2_with fail
      refine K1.mono ?_
      rintro e w' ⟨rfl, rfl⟩
      clear K1
      go_wp2
      go_ret2
      exact ⟨rfl, HB.out⟩
    | false =>
      rw [hb] at K1 hE
      rw [Bool.false_or] at hE ⊢
      cases ha : l.any Plain.badC with
      | false => rw [ha] at hE; exact absurd rfl hE
      | true =>
        rw [ha] at K2
        rw [if_pos rfl]
        clear hE hb ha
        go_enter Try.func41, Try.ntmps41
        go_wp2_with fail
        refine K1.mono ?_
        rintro e w' ⟨rfl, rfl⟩
        clear K1
        go_wp2_with fail
        refine K2.mono ?_
        rintro e w' ⟨rfl, rfl⟩
        clear K2
        go_wp2
        go_ret2
        exact ⟨rfl, HB.out⟩

/-- share.Split at whatever arguments. -/
theorem split_any (v : Value) (l : List Int) (t : Int) (hbig : l.length ≤ 9223372036854775807) (w : World) (h : Seg w v l) (hv : Lies w.heap.size v) :
    Calls Try.prog 41 #[.int .i64 t, v] w fun e w' => ∃ r, e = .returned (.tuple #[r, .int .i64 (Plain.splitE t l : Nat)]) ∧ Seg w' r (Plain.splitV t l) ∧ Lies w'.heap.size r ∧ Below w.heap.size w w' := by
  obtain ⟨p, c, rfl, hp⟩ := seg_wants h hv
  by_cases he : Plain.splitE t l = 0
  · refine (split_ok p l.length c l t he w rfl hp).mono ?_
    rintro e w' ⟨g, rfl, hr, hg, hb⟩
    rw [he, Plain.splitV_ok he]
    have := hr.seg l.length
    rw [Plain.split_len] at this
    exact ⟨_, rfl, this, hr.lies _ _, hb⟩
  · refine (split_err p l.length c l t he w rfl hbig hp).mono ?_
    rintro e w' ⟨rfl, hb⟩
    rw [Plain.splitV_no he]
    exact ⟨_, rfl, Seg.nil _, lies_nil _ _ _, hb⟩
end Go.Proofs.Ytiolkeghgodggaj.Bo
