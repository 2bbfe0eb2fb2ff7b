/-
  Contracts of May's literals, and of slices.IndexFunc and slices.ContainsFunc with them.
-/
import Derived.Test.YtcdlgpickjiikagTm
import Derived.Deep.LoopGhost
import Derived.Shelf.Abstract
namespace Go.Proofs.Ytcdlgpickjiikag
open Go.RowKit Go.Shelf

namespace Plain
/-- The first place at which p holds, or -1. -/
def idxA {α : Type} (p : α → Bool) (l : List α) : Int := if l.findIdx p < l.length then (l.findIdx p : Nat) else -1
theorem idxA_hit {α : Type} {p : α → Bool} {l : List α} {d : α} {k : Nat} (hk : k < l.length) (h : p (l.getD k d) = true) (ha : ∀ j, j < k → p (l.getD j d) = false) : idxA p l = k := by
  have e : l.findIdx p = k := by
    rw [List.findIdx_eq hk]
    rw [getD_lt _ _ _ hk] at h
    refine ⟨h, fun j hj => ?_⟩
    have := ha j hj
    rw [getD_lt _ _ _ (by omega)] at this
    exact this
  unfold idxA
  rw [e, if_pos hk]
theorem idxA_miss {α : Type} {p : α → Bool} {l : List α} {d : α} (ha : ∀ j, j < l.length → p (l.getD j d) = false) : idxA p l = -1 := by
  have e : l.findIdx p = l.length := List.findIdx_eq_length.2 fun x hx => by
    obtain ⟨j, hj, rfl⟩ := List.getElem_of_mem hx
    have := ha j hj
    rw [getD_lt _ _ _ hj] at this
    exact this
  unfold idxA
  rw [e, if_neg (by omega)]
theorem idxA_any {α : Type} (p : α → Bool) (l : List α) : decide (0 ≤ idxA p l) = l.any p := by
  unfold idxA
  by_cases h : l.findIdx p < l.length
  · rw [if_pos h, List.any_eq_true.2 ⟨l[l.findIdx p], List.getElem_mem h, List.findIdx_getElem⟩]
    simp
  · rw [if_neg h]
    have : l.any p = false := by
      rw [List.any_eq_false]
      intro x hx hp
      exact h (List.findIdx_lt_length_of_exists ⟨x, hx, hp⟩)
    rw [this]
    rfl
end Plain

set_option maxHeartbeats 400000 in
theorem badN_c (x : Int) (w : World) : Calls Try.prog 27 #[.int .i64 x] w fun e w' => e = .returned (.bool (Plain.badN x)) ∧ w' = w := by
  by_cases h0 : x < 0
  · have e : Plain.badN x = true := by unfold Plain.badN; rw [decide_eq_true_eq]; exact .inl h0
    rw [e]
    go_enter Try.func27, Try.ntmps27
    go_wp2
    go_ret
    exact ⟨rfl, rfl⟩
  by_cases h1 : 1048576 < x
  · have e : Plain.badN x = true := by unfold Plain.badN; rw [decide_eq_true_eq]; exact .inr h1
    rw [e]
    go_enter Try.func27, Try.ntmps27
    go_wp2
    go_ret
    exact ⟨rfl, rfl⟩
  · have e : Plain.badN x = false := by unfold Plain.badN; rw [decide_eq_false_iff_not]; omega
    rw [e]
    go_enter Try.func27, Try.ntmps27
    go_wp2
    go_ret
    exact ⟨rfl, rfl⟩

set_option maxHeartbeats 2000000 in
theorem indexI_c (p : Option Addr) (n c : Nat) (l : List Int) (w : World) (hn : l.length = n) (hbig : n ≤ 9223372036854775807)
    (hp : 0 < n → ∃ b off, p = some ⟨b, off, none⟩ ∧ ∀ j, j < n → w.cell? ⟨b, off + j, none⟩ = some (.int .i64 (l.getD j 0))) :
    Calls Try.prog 33 #[.slice p n c, .func (.func 27) #[] #[]] w fun e w' => e = .returned (.int .i64 (Plain.idxA Plain.badN l)) ∧ w' = w := by
  have HP := hid hp
  have HN := hid hn
  clear hp hn
  go_enter Try.func33, Try.ntmps33
  go_wp2
  go_loopg [5, 8] n (fun gg _ s8 wr => ∃ kk : Nat, kk ≤ n ∧ n - kk ≤ gg ∧ s8 = .int .i64 kk ∧ wr = w ∧ Aside (∀ j, j < kk → Plain.badN (l.getD j 0) = false))
  case atStart => exact ⟨0, Nat.zero_le _, by omega, rfl, rfl, fun j hj => absurd hj (Nat.not_lt_zero _)⟩
  case round =>
    obtain ⟨kk, hkk, hg, rfl, rfl, A⟩ := hrel
    by_cases hlt : kk < n
    · have hltz : (kk : Int) < (n : Int) := by omega
      obtain ⟨b, off, rfl, hc⟩ := HP.out (by omega)
      have c0 := hc kk hlt
      clear hc
      have hcall := badN_c (l.getD kk 0) wr
      generalize hy : l.getD kk 0 = y at c0 hcall
      have HY : Aside (l.getD kk 0 = y) := hy
      clear hy
      cases hq : Plain.badN y with
      | true =>
        rw [hq] at hcall
        go_wp2_with fail
        refine hcall.mono ?_
        rintro e w' ⟨rfl, rfl⟩
        clear hcall
        go_wp2
        go_ret
        refine ⟨?_, rfl⟩
        rw [Plain.idxA_hit (d := 0) (by have := HN.out; omega) (by rw [HY.out]; exact hq) A.out]
        rfl
      | false =>
        rw [hq] at hcall
        go_wp2_with fail
        refine hcall.mono ?_
        rintro e w' ⟨rfl, rfl⟩
        clear hcall
        go_wp2
        go_roundg (n - (kk + 1))
        case measure => omega
        case rel =>
          refine ⟨kk + 1, by omega, by omega, by go_num, rfl, (show Aside _ from fun j hj => ?_)⟩
          by_cases e : j = kk
          · subst e
            rw [HY.out]; exact hq
          · exact A.out j (by omega)
    · have hltz : ¬ (kk : Int) < (n : Int) := by omega
      have : kk = n := by omega
      subst this
      go_wp2
      go_ret
      refine ⟨?_, rfl⟩
      rw [Plain.idxA_miss (d := 0) (fun j hj => A.out j (by have := HN.out; omega))]
      rfl

theorem containsI (v : Value) (l : List Int) (w : World) (h : RowS w v l) :
    Calls Try.prog 26 #[v, .func (.func 27) #[] #[]] w fun e w' => e = .returned (.bool (l.any Plain.badN)) ∧ w' = w := by
  rw [← Plain.idxA_any]
  obtain ⟨p, c, rfl, hp⟩ := h.form
  have K := indexI_c p l.length c l w rfl h.b (fun h0 => by obtain ⟨b, off, e, _, hc⟩ := hp h0; exact ⟨b, off, e, hc⟩)
  clear hp h
  generalize Plain.idxA Plain.badN l = r at K ⊢
  generalize l.length = n at K ⊢
  go_enter Try.func26, Try.ntmps26
  go_wp2_with fail
  refine K.mono ?_
  rintro e w' ⟨rfl, rfl⟩
  clear K
  go_wp2
  go_ret
  exact ⟨rfl, rfl⟩
end Go.Proofs.Ytcdlgpickjiikag
