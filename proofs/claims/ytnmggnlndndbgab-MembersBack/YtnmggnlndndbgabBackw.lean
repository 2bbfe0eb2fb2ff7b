/-
  The contract of the law's Picked at small numbers; what one round of the law's loop does.
-/
import Derived.Test.YtnmggnlndndbgabBackp
import Derived.Test.YtnmggnlndndbgabOf
import Derived.Laws.AppendOwnNone
import Derived.WalkSmall
namespace Go.Proofs.Ytnmggnlndndbgab
open Go.RowKit

set_option maxHeartbeats 400000 in
theorem pickedn (a : Int) (n x : Nat) (hn : 0 < n) (hn8 : n ≤ 8) (hx : a % n = x) (w : World) :
    Calls Try.prog 7 #[.int .i64 a, .int .i64 n] w fun e w' => e = .returned (.int .i64 x) ∧ w' = w := by
  have HX : Hid _ := hx
  clear hx
  have hni : (0 : Int) < n := by omega
  have hn0 : ((n : Int) == 0) = false := by simp; omega
  rcases tmod_cases a n hni with ⟨h, e, h3⟩ | ⟨h, e⟩
  · rw [HX.out] at e
    have E1 : Hid _ := e
    clear e
    go_enter Try.func7, Try.ntmps7
    go_wp2
    go_ret
    rw [E1.out]
    exact ⟨rfl, rfl⟩
  · rw [HX.out] at e
    have E1 : Hid _ := e
    clear e
    have h' : ¬ a.tmod n < 0 := by omega
    go_enter Try.func7, Try.ntmps7
    go_wp2
    go_ret
    rw [E1.out]
    exact ⟨rfl, rfl⟩

theorem owns_one (w : World) (base : Nat) (hb : base ≤ w.heap.size) (e : Value) : (w.alloc (.cells #[e] 3)).ownsRow base 3 1 (.slice (some ⟨w.heap.size, 0, none⟩) 1 1) 1 [e] := by
  refine ⟨rfl, .inr ⟨w.heap.size, 1, #[e], rfl, hb, heap_alloc_new w _, Nat.le_refl _, by decide, rfl, rfl⟩⟩

theorem other_parts {w : World} {base n : Nat} {v : Value} {xs : List Value} (h : w.ownsRow base 3 1 v (n + 1) xs) : ∃ g cap, v = .slice (some ⟨g, 0, none⟩) (n + 1) cap ∧ base ≤ g ∧ g < w.heap.size := by
  rcases h.2 with ⟨_, e⟩ | ⟨g, cap, cur, rfl, hb, _, _, _, _, _⟩
  · omega
  · exact ⟨g, cap, rfl, hb, (h.lt g rfl).2⟩

theorem other_news {w : World} {base n g cap : Nat} {xs : List Value} (o : Obj) (h : w.ownsRow base 3 1 (.slice (some ⟨g, 0, none⟩) n cap) n xs) :
    ∀ j u, xs[j]? = some u → (w.alloc o).cell? ((⟨g, 0, none⟩ : Addr).add j) = some u := by
  intro j u hj
  exact (h.alloc o).cells rfl j u hj

theorem one_cell (l : List Int) : ∀ u ∈ l.map (Value.int .i64), u.oneCell' = true := by
  intro u hu
  obtain ⟨n, _, rfl⟩ := List.mem_map.1 hu
  rfl
end Go.Proofs.Ytnmggnlndndbgab
