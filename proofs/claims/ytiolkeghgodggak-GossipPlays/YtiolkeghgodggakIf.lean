/-
  Contracts of slices.IndexFunc and slices.ContainsFunc at entries.
-/
import Derived.Test.YtiolkeghgodggakNw
import Derived.Deep.LoopGhost
import Derived.Shelf.Abstract
namespace Go.Proofs.Ytiolkeghgodggak
open Go.RowKit Go.Shelf

namespace Plain
/-- The first place at which p holds, or -1. -/
def idx (p : En → Bool) (l : List En) : Int := if l.findIdx p < l.length then (l.findIdx p : Nat) else -1
theorem idx_hit {p : En → Bool} {l : List En} {k : Nat} (hk : k < l.length) (h : p (en l k) = true) (ha : ∀ j, j < k → p (en l j) = false) : idx p l = k := by
  have e : l.findIdx p = k := by
    rw [List.findIdx_eq hk]
    rw [en_lt hk] at h
    refine ⟨h, fun j hj => ?_⟩
    have := ha j hj
    rw [en_lt (by omega)] at this
    exact this
  unfold idx
  rw [e, if_pos hk]
theorem idx_miss {p : En → Bool} {l : List En} (ha : ∀ j, j < l.length → p (en l j) = false) : idx p l = -1 := by
  have e : l.findIdx p = l.length := List.findIdx_eq_length.2 fun x hx => by
    obtain ⟨j, hj, rfl⟩ := List.getElem_of_mem hx
    have := ha j hj
    rw [en_lt hj] at this
    exact this
  unfold idx
  rw [e, if_neg (by omega)]
theorem idx_any (p : En → Bool) (l : List En) : decide (0 ≤ idx p l) = l.any p := by
  unfold idx
  by_cases h : l.findIdx p < l.length
  · rw [if_pos h, List.any_eq_true.2 ⟨l[l.findIdx p], List.getElem_mem h, List.findIdx_getElem⟩]
    simp
  · rw [if_neg h]
    have : l.any p = false := by
      rw [List.any_eq_false]
      intro x hx hp
      exact h (List.findIdx_lt_length_of_exists ⟨x, hx, hp⟩)
    rw [this]
    rfl
end Plain

/-- What is asked of a function of entries that is handed on. -/
def PredN (g : Nat) (p : Plain.En → Bool) (w : World) : Prop :=
  ∀ (W : World) (x : Plain.En), Below w.heap.size w W → Calls Try.prog g #[aggE x] W fun e w' => e = .returned (.bool (p x)) ∧ Below w.heap.size w w'

set_option maxHeartbeats 2000000 in
theorem index_c (p : Plain.En → Bool) (g : Nat) (eg : ∀ args w, (callFunc g args).run Try.prog w = .ok (.enter g args) w) (b off n c : Nat) (l : List Plain.En) (w : World)
    (hp : PredN g p w) (hn : l.length = n) (hbig : n ≤ 9223372036854775807) (hb : 0 < n → b < w.heap.size) (hc : CellsN w b off l) :
    Calls Try.prog 44 #[.slice (some ⟨b, off, none⟩) n c, .func (.func g) #[] #[]] w fun e w' => e = .returned (.int .i64 (Plain.idx p l)) ∧ Below w.heap.size w w' := by
  have HC := hid hc
  have HP := hid hp
  clear hc hp
  go_enter Try.func44, Try.ntmps44
  go_wp2
  go_loopg [5, 8] n (fun gg _ s8 wr => ∃ kk : Nat, kk ≤ n ∧ n - kk ≤ gg ∧ s8 = .int .i64 kk ∧ Aside (Below w.heap.size w wr) ∧ Aside (∀ j, j < kk → p (Plain.en l j) = false))
  case atStart => exact ⟨0, Nat.zero_le _, by omega, rfl, Below.refl _ w, fun j hj => absurd hj (Nat.not_lt_zero _)⟩
  case round =>
    obtain ⟨kk, hkk, hg, rfl, BW, A⟩ := hrel
    by_cases hlt : kk < n
    · have hltz : (kk : Int) < (n : Int) := by omega
      obtain ⟨c0, c1, c2, c3, c4⟩ := (HC.out kk (by omega)).below BW.out (hb (by omega))
      have hcall := HP.out wr (Plain.en l kk) BW.out
      have B : Aside (∀ x, Plain.en l kk = x → x = Plain.en l kk) := fun x h => h.symm
      generalize hy : Plain.en l kk = y at c0 c1 c2 c3 c4 hcall
      have HY : Aside (Plain.en l kk = y) := hy
      clear hy B
      cases hq : p y with
      | true =>
        rw [hq] at hcall
        go_wp2_with (go_at_fn g; refine hcall.mono ?_; rintro e w' ⟨rfl, hb'⟩)
        go_ret
        refine ⟨?_, hb'⟩
        rw [Plain.idx_hit (by omega) (by rw [HY.out]; exact hq) A.out]
        rfl
      | false =>
        rw [hq] at hcall
        go_wp2_with (go_at_fn g; refine hcall.mono ?_; rintro e w' ⟨rfl, hb'⟩)
        go_roundg (n - (kk + 1))
        case measure => omega
        case rel =>
          refine ⟨kk + 1, by omega, by omega, by go_num, hb', (show Aside _ from fun j hj => ?_)⟩
          by_cases e : j = kk
          · subst e
            rw [HY.out]; exact hq
          · exact A.out j (by omega)
    · have hltz : ¬ (kk : Int) < (n : Int) := by omega
      have : kk = n := by omega
      subst this
      go_wp2
      go_ret
      refine ⟨?_, BW.out⟩
      rw [Plain.idx_miss (fun j hj => A.out j (by omega))]
      rfl

set_option maxHeartbeats 1000000 in
theorem index_nil (p : Option Addr) (c : Nat) (f : Value) (w : World) :
    Calls Try.prog 44 #[.slice p 0 c, f] w fun e w' => e = .returned (.int .i64 (-1)) ∧ w' = w := by
  go_enter Try.func44, Try.ntmps44
  go_wp2
  refine wp_loop_rounds 1 ?_
  rw [rounds_succ]
  go_wp2
  go_ret
  exact ⟨rfl, rfl⟩

/-- IndexFunc at whatever slice of entries. -/
theorem index_any (p : Plain.En → Bool) (g : Nat) (eg : ∀ args w, (callFunc g args).run Try.prog w = .ok (.enter g args) w) (v : Value) (l : List Plain.En) (w : World)
    (hp : PredN g p w) (hbig : l.length ≤ 9223372036854775807) (hs : SegN w v l) (hl : Lies w.heap.size v) :
    Calls Try.prog 44 #[v, .func (.func g) #[] #[]] w fun e w' => e = .returned (.int .i64 (Plain.idx p l)) ∧ Below w.heap.size w w' := by
  rcases hs with ⟨rfl, q, c, rfl⟩ | ⟨b, off, c, rfl, _, hc⟩
  · exact (index_nil q c _ w).mono fun e w' ⟨h1, h2⟩ => ⟨by rw [h1]; rfl, by rw [h2]; exact Below.refl _ _⟩
  · exact index_c p g eg b off l.length c l w hp rfl hbig (fun h => hl ⟨b, off, none⟩ _ _ rfl h) hc

theorem contains_any (p : Plain.En → Bool) (g : Nat) (eg : ∀ args w, (callFunc g args).run Try.prog w = .ok (.enter g args) w) (v : Value) (l : List Plain.En) (w : World)
    (hp : PredN g p w) (hbig : l.length ≤ 9223372036854775807) (hs : SegN w v l) (hl : Lies w.heap.size v) :
    Calls Try.prog 30 #[v, .func (.func g) #[] #[]] w fun e w' => e = .returned (.bool (l.any p)) ∧ Below w.heap.size w w' := by
  rw [← Plain.idx_any]
  have K := index_any p g eg v l w hp hbig hs hl
  generalize Plain.idx p l = r at K ⊢
  go_enter Try.func30, Try.ntmps30
  go_wp2_with (go_at_call 44; refine K.mono ?_; rintro e w' ⟨rfl, hb⟩)
  go_ret
  exact ⟨rfl, hb⟩
end Go.Proofs.Ytiolkeghgodggak
