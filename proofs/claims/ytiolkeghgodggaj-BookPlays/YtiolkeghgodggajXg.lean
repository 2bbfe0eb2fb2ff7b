/-
  How long grants are.
-/
import Derived.Test.YtiolkeghgodggajX5
namespace Go.Proofs.Ytiolkeghgodggaj.Bo
namespace Plain
theorem caT_grants {b : Bk} (h : Ok b) (hn : b.n ≤ 1000) (c : Ca) : (caT b c).grants.length ≤ 1000 := by
  unfold caT
  split
  · simp
  split
  · show (roundB b).given.length ≤ 1000
    rw [h.round.lg, roundB_n]; exact hn
  · simp
theorem bookF_grants {b : Bk} (h : Ok b) (hn : b.n ≤ 1000) (l : List Ca) : ∀ r, r ∈ bookF b l → r.grants.length ≤ 1000 := by
  induction l generalizing b with
  | nil => intro r hr; simp [bookF] at hr
  | cons c l ih =>
    intro r hr
    rcases List.mem_cons.1 hr with rfl | hr
    · exact caT_grants h hn c
    · exact ih (h.step c) (by rw [caB_n]; exact hn) r hr
end Plain
end Go.Proofs.Ytiolkeghgodggaj.Bo
