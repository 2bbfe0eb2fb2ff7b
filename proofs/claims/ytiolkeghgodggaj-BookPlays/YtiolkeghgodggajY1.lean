/-
  book: isFrom; slices.Clone and slices.Repeat at numbers.
-/
import Derived.Test.YtiolkeghgodggajY0
import Derived.Test.YtiolkeghgodggajAp
import Derived.Laws.CopyRow
namespace Go.Proofs.Ytiolkeghgodggaj.Bo
open Go.RowKit Go.Shelf Go.Sort

set_option maxHeartbeats 400000 in
theorem from_c (a n m : Int) (w : World) : Calls Try.prog 26 #[.int .i64 a, .int .i64 n, .int .i64 m] w fun e w' => e = .returned (.bool (decide (a ≤ n ∧ n ≤ m))) ∧ w' = w := by
  obtain ⟨b, hb⟩ : ∃ b, b = decide (a ≤ n ∧ n ≤ m) := ⟨_, rfl⟩
  rw [← hb]
  by_cases h1 : a ≤ n
  · by_cases h2 : n ≤ m
    · have H := hid (show b = true by rw [hb]; exact decide_eq_true ⟨h1, h2⟩)
      clear hb
      go_enter Try.func26, Try.ntmps26
      go_wp2
      go_ret
      exact ⟨by rw [H.out]; rfl, rfl⟩
    · have H := hid (show b = false by rw [hb]; exact decide_eq_false (fun x => h2 x.2))
      clear hb
      go_enter Try.func26, Try.ntmps26
      go_wp2
      go_ret
      exact ⟨by rw [H.out]; rfl, rfl⟩
  · have H := hid (show b = false by rw [hb]; exact decide_eq_false (fun x => h1 x.1))
    clear hb
    go_enter Try.func26, Try.ntmps26
    go_wp2
    go_ret
    exact ⟨by rw [H.out]; rfl, rfl⟩
theorem from_t {a n m : Int} (h : a ≤ n ∧ n ≤ m) (w : World) : Calls Try.prog 26 #[.int .i64 a, .int .i64 n, .int .i64 m] w fun e w' => e = .returned (.bool true) ∧ w' = w := by
  have := from_c a n m w
  rw [decide_eq_true h] at this
  exact this
theorem from_f {a n m : Int} (h : ¬ (a ≤ n ∧ n ≤ m)) (w : World) : Calls Try.prog 26 #[.int .i64 a, .int .i64 n, .int .i64 m] w fun e w' => e = .returned (.bool false) ∧ w' = w := by
  have := from_c a n m w
  rw [decide_eq_false h] at this
  exact this

theorem owns_some {w : World} {B e s n : Nat} {v : Value} {xs : List Value} (h : w.ownsRow B e s v n xs) (hn : 0 < n) : ∃ g c, v = .slice (some ⟨g, 0, none⟩) n c := by
  rcases h.2 with ⟨_, h0⟩ | ⟨g, cap, _, rfl, _⟩
  · omega
  · exact ⟨g, cap, rfl⟩
theorem _root_.Go.Proofs.Ytiolkeghgodggaj.RowI.src {w : World} {p : Nat} {l : List Int} (h : RowI w p l) (j : Nat) (u : Value) (hj : (ivals l)[j]? = some u) : w.cell? ((⟨p, 0, none⟩ : Addr).add j) = some u := by
  have hlt : j < l.length := by
    rcases Nat.lt_or_ge j l.length with x | x
    · exact x
    · rw [List.getElem?_eq_none (by simp [ivals]; exact x)] at hj; cases hj
  rw [ivals_at hlt] at hj
  injection hj with hj
  rw [add_at', Nat.zero_add, ← hj]
  exact h.cell hlt
theorem ivals_len (l : List Int) : (ivals l).length = l.length := by simp [ivals]
theorem ivals_cell (l : List Int) : ∀ u ∈ ivals l, u.oneCell' = true := by
  intro u hu
  obtain ⟨x, _, rfl⟩ := List.mem_map.1 hu
  rfl
/-- append of what a row of numbers holds onto nothing, or onto an empty row that was just made. -/
theorem app_row {w : World} {p n cap : Nat} {l : List Int} {v : Value} (h : RowI w p l) (hn : l.length = n) (h1 : 1 ≤ n) (h8 : n ≤ 1000) {C : Nat} (hv : w.ownsRow C 3 1 v 0 []) (hC : C ≤ w.heap.size) :
    ∃ g c w', (Builtin.append_ #[29, 29] 29 #[v, .slice (some ⟨p, 0, none⟩) n cap]).run Try.prog w = .ok (.slice (some ⟨g, 0, none⟩) n c) w' ∧ RowI w' g l ∧ C ≤ g ∧ w.grownBy w' v.ownBlock := by
  obtain ⟨j0, ji, jz0, jz1, jz2⟩ := info_parts Try.infoInt
  obtain ⟨v', w', r, o, g, _⟩ := run_append_own (P := Try.prog) w C 29 29 3 j0 (.int .i64 0) 1 8 Try.underlying29 ji jz0 jz1 jz2 rfl (by decide) v 0 _ hv ⟨p, 0, none⟩ n cap (ivals l)
    (by rw [ivals_len, hn]; omega) h.src (ivals_cell l) (by unfold maxLen; omega) (by omega) hC
  rw [List.nil_append, Nat.zero_add] at o
  obtain ⟨gb, c, rfl⟩ := owns_some o h1
  obtain ⟨h2, h3⟩ := RowI.of_owns (l := l) o hn rfl
  exact ⟨gb, c, w', r, h2, h3, g⟩

set_option maxHeartbeats 1000000 in
set_option maxRecDepth 100000 in
theorem clone_row (p n cap : Nat) (l : List Int) (hn : l.length = n) (h1 : 1 ≤ n) (h8 : n ≤ 1000) (w : World) (h : RowI w p l) :
    Calls Try.prog 35 #[.slice (some ⟨p, 0, none⟩) n cap] w fun e w' =>
      ∃ g c, e = .returned (.slice (some ⟨g, 0, none⟩) n c) ∧ RowI w' g l ∧ w.heap.size ≤ g ∧ Below w.heap.size w w' := by
  have hown : (w.alloc (.cells #[] 3)).ownsRow w.heap.size 3 1 (.slice (some ⟨w.heap.size, 0, none⟩) 0 0) 0 [] :=
    ⟨rfl, .inr ⟨w.heap.size, 0, #[], rfl, Nat.le_refl _, Deep.blk_alloc_new _ _, Nat.le_refl _, by unfold maxLen; omega, rfl, rfl⟩⟩
  have bel : Below w.heap.size w (w.alloc (.cells #[] 3)) := (Below.refl _ _).alloc (Nat.le_refl _) _
  obtain ⟨g, c, W, hrun, hr, hg, hgr⟩ := app_row (cap := cap) (h.below bel h.lt) hn h1 h8 hown (by simp)
  have RUN := hid hrun
  have R := hid hr
  have HG := hid hg
  have HB := hid (show Below w.heap.size w W from bel.grown hgr (by simp) (fun j hj => by simp [Value.ownBlock] at hj; omega))
  clear hrun hr hg hgr h bel hown hn
  have he : ∀ w : World, (binOp .eql 29 (.slice (some ⟨p, 0, none⟩) n cap) (.slice none 0 0)).run Try.prog w = .ok (.bool false) w := fun _ => rfl
  go_enter Try.func35, Try.ntmps35
  go_wp2_with (first | (at_builtin; refine wpList_app _ _ 29 RUN.out (by rfl) (by rfl) (by rfl) (by rfl) (by rfl) ?_) | fail)
  go_wp2
  go_ret
  exact ⟨g, c, rfl, R.out, HG.out, HB.out⟩

set_option maxHeartbeats 1000000 in
theorem mul64_c (n : Nat) (h1 : 1 ≤ n) (h8 : n ≤ 8) (w : World) : Calls Try.prog 52 #[.int .u64 1, .int .u64 (n : Int)] w fun e w' => e = .returned (.tuple #[.int .u64 0, .int .u64 (n : Int)]) ∧ w' = w := by
  have : n = 1 ∨ n = 2 ∨ n = 3 ∨ n = 4 ∨ n = 5 ∨ n = 6 ∨ n = 7 ∨ n = 8 := by omega
  rcases this with rfl | rfl | rfl | rfl | rfl | rfl | rfl | rfl
  all_goals
    go_enter Try.func52, Try.ntmps52
    go_wp2
    go_ret2
    exact ⟨rfl, rfl⟩
set_option maxHeartbeats 1000000 in
theorem mul_c (n : Nat) (h1 : 1 ≤ n) (h8 : n ≤ 8) (w : World) : Calls Try.prog 49 #[.int .u64 1, .int .u64 (n : Int)] w fun e w' => e = .returned (.tuple #[.int .u64 0, .int .u64 (n : Int)]) ∧ w' = w := by
  have K := mul64_c n h1 h8 w
  go_enter Try.func49, Try.ntmps49
  go_wp2_with fail
  refine K.mono ?_
  rintro e wx ⟨rfl, hx⟩
  have hy := hx.symm
  clear hx
  subst hy
  clear K
  go_wp2
  go_ret2
  exact ⟨rfl, rfl⟩
end Go.Proofs.Ytiolkeghgodggaj.Bo
