/-
  Contracts of clock.refuse and clock.Join.
-/
import Derived.Test.YtlckhpfokijknaeCm
import Derived.RegionTactic
import Derived.BigRegion
import Derived.ChangeAlike
import Derived.Deep.QuietTactic
import Derived.BigQuiet
namespace Go.Proofs.Ytlckhpfokijknae
open Go.RowKit

theorem Try.infoInt : (Try.prog.info? 3).map (fun i => (i.zero, i.size, i.bytes)) = some (some (.int .i64 0), 1, 8) := by kernel_rfl

set_option maxHeartbeats 1000000 in
/-- clock.refuse at whatever two slices. -/
theorem refuse_any (u v : Value) (a b : List Int) (ha : a.length ≤ 9223372036854775807) (hb : b.length ≤ 9223372036854775807) (w : World) (h1 : Seg w u a) (h2 : Seg w v b) :
    Calls Try.prog 15 #[u, v] w fun e w' => e = .returned (.int .i64 (Plain.cE a b : Nat)) ∧ w' = w := by
  obtain ⟨p, cp, rfl⟩ := seg_form h1
  obtain ⟨q, cq, rfl⟩ := seg_form h2
  have K1 := may_any _ a ha w h1
  have K2 := may_any _ b hb w h2
  have e : Plain.cE a b = if (Plain.okC a && Plain.okC b) = true then (if a.length = b.length then 0 else 1) else 4 := rfl
  rw [e]
  clear e h1 h2
  generalize Plain.okC a = x at K1
  generalize Plain.okC b = y at K2
  cases x
  · go_enter Try.func15, Try.ntmps15
    go_wp2_with fail
    refine K1.mono ?_
    rintro e w' ⟨rfl, rfl⟩
    go_wp2
    go_ret
    exact ⟨rfl, rfl⟩
  · cases y
    · go_enter Try.func15, Try.ntmps15
      go_wp2_with fail
      refine K1.mono ?_
      rintro e w' ⟨rfl, rfl⟩
      go_wp2_with fail
      refine K2.mono ?_
      rintro e w' ⟨rfl, rfl⟩
      go_wp2
      go_ret
      exact ⟨rfl, rfl⟩
    · by_cases c : a.length = b.length
      · rw [if_pos (by rfl), if_pos c]
        rw [← c] at K2 ⊢
        clear c
        go_enter Try.func15, Try.ntmps15
        go_wp2_with fail
        refine K1.mono ?_
        rintro e w' ⟨rfl, rfl⟩
        go_wp2_with fail
        refine K2.mono ?_
        rintro e w' ⟨rfl, rfl⟩
        go_wp2
        go_ret
        exact ⟨rfl, rfl⟩
      · rw [if_pos (by rfl), if_neg c]
        have c' : ¬ (a.length : Int) = (b.length : Int) := by omega
        go_enter Try.func15, Try.ntmps15
        go_wp2_with fail
        refine K1.mono ?_
        rintro e w' ⟨rfl, rfl⟩
        go_wp2_with fail
        refine K2.mono ?_
        rintro e w' ⟨rfl, rfl⟩
        go_wp2
        go_ret
        exact ⟨rfl, rfl⟩
end Go.Proofs.Ytlckhpfokijknae
