/-
  A contract of the document's answer to Newer.
-/
import Derived.Test.YtiolkeghgodggakNw
namespace Go.Proofs.Ytiolkeghgodggak
open Go.RowKit

set_option maxHeartbeats 1000000 in
theorem rnewer_c (a b : Plain.En) (w : World) :
    Calls Try.prog 53 #[aggE a, aggE b] w fun e w' => e = .returned (.bool (Plain.newer a b)) ∧ w' = (w.alloc (boxE a)).alloc (boxE b) := by
  obtain ⟨ak, av, ati, aw, ag⟩ := a
  obtain ⟨bk, bv, bt, bw, bg⟩ := b
  by_cases h1 : ati = bt
  · subst h1
    by_cases h2 : aw = bw
    · subst h2
      have e1 : Plain.newer ⟨ak, av, ati, aw, ag⟩ ⟨bk, bv, ati, aw, bg⟩ = if ag = bg then decide (bv < av) else bg := by simp [Plain.newer]
      rw [e1]
      cases ag <;> cases bg
      all_goals
        go_enter Try.func53, Try.ntmps53
        go_wp2
        go_ret
        exact ⟨rfl, rfl⟩
    · have e1 : Plain.newer ⟨ak, av, ati, aw, ag⟩ ⟨bk, bv, ati, bw, bg⟩ = decide (bw < aw) := by simp [Plain.newer, h2]
      rw [e1]
      have b1 : (aw != bw) = true := bne_iff_ne.2 h2
      go_enter Try.func53, Try.ntmps53
      go_wp2
      go_ret
      exact ⟨rfl, rfl⟩
  · have e1 : Plain.newer ⟨ak, av, ati, aw, ag⟩ ⟨bk, bv, bt, bw, bg⟩ = decide (bt < ati) := by simp [Plain.newer, h1]
    rw [e1]
    have b1 : (ati != bt) = true := bne_iff_ne.2 h1
    go_enter Try.func53, Try.ntmps53
    go_wp2
    go_ret
    exact ⟨rfl, rfl⟩

end Go.Proofs.Ytiolkeghgodggak
