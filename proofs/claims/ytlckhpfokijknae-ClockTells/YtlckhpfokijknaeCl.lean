/-
  A contract of slices.Clone at a row of numbers.
-/
import Derived.Test.YtlckhpfokijknaeCj
namespace Go.Proofs.Ytlckhpfokijknae
open Go.RowKit

theorem below_app3 {w W w1 : World} {B : Nat} {v : Value} (hW : Below B w W) (hB : B ≤ W.heap.size) (hg : W.grownBy w1 v.ownBlock) (hv : ∀ j, v.ownBlock = some j → B ≤ j) : Below B w w1 := hW.grown hg hB hv

theorem owns_some {w : World} {B e s n : Nat} {v : Value} {xs : List Value} (h : w.ownsRow B e s v n xs) (hn : 0 < n) : ∃ g c, v = .slice (some ⟨g, 0, none⟩) n c := by
  rcases h.2 with ⟨_, h0⟩ | ⟨g, cap, _, rfl, _⟩
  · omega
  · exact ⟨g, cap, rfl⟩

set_option maxHeartbeats 1000000 in
set_option maxRecDepth 100000 in
theorem clone_row (p n cap : Nat) (l : List Int) (hn : l.length = n) (h1 : 1 ≤ n) (h8 : n ≤ 8) (w : World) (h : RowI w p l) :
    Calls Try.prog 13 #[.slice (some ⟨p, 0, none⟩) n cap] w fun e w' =>
      ∃ g c, e = .returned (.slice (some ⟨g, 0, none⟩) n c) ∧ RowI w' g l ∧ w.heap.size ≤ g ∧ Below w.heap.size w w' := by
  obtain ⟨i0, hi, hz0, hz1, hz2⟩ := info_parts Try.infoInt
  have hplt := h.lt
  have H := hid h
  have HN := hid hn
  clear h hn
  have he : ∀ w : World, (binOp .eql 34 (.slice (some ⟨p, 0, none⟩) n cap) (.slice none 0 0)).run Try.prog w = .ok (.bool false) w := fun _ => rfl
  have hown : (w.alloc (.cells #[] 3)).ownsRow w.heap.size 3 1 (.slice (some ⟨w.heap.size, 0, none⟩) 0 0) 0 [] :=
    ⟨rfl, .inr ⟨w.heap.size, 0, #[], rfl, Nat.le_refl _, Deep.blk_alloc_new _ _, Nat.le_refl _, by unfold maxLen; omega, rfl, rfl⟩⟩
  go_enter Try.func13, Try.ntmps13
  go_wp2_with (first
    | (at_builtin; refine wpList_append_own _ rfl _ _ 34 rfl w.heap.size 3 i0 (.int .i64 0) 1 8 Try.underlying34 hi hz0 hz1 hz2 rfl (by decide) _ _ _ rfl hown ⟨p, 0, none⟩ n cap (l.map (Value.int .i64)) rfl (by rw [List.length_map, HN.out]; omega) ?c1 ?c2 ?c3 ?c4 ?c5 ?_)
    | go_in)
  case c1 =>
    intro j u hj
    rw [List.getElem?_map] at hj
    cases hx : l[j]? with
    | none => rw [hx] at hj; simp at hj
    | some x =>
      rw [hx] at hj
      simp only [Option.map_some, Option.some.injEq] at hj
      subst hj
      have hlt : j < l.length := by
        by_cases c : j < l.length
        · exact c
        · rw [List.getElem?_eq_none (by omega)] at hx; cases hx
      have hc := H.out.cell hlt
      have e : l.getD j 0 = x := by rw [List.getD_eq_getElem?_getD, hx]; rfl
      rw [e] at hc
      have hc2 := (((Below.refl w.heap.size w).alloc (Nat.le_refl _) (.cells #[] 3)).cell (p := ⟨p, j, none⟩) hplt).trans hc
      by_cases h0 : j = 0
      · subst h0; simpa [Addr.add] using hc2
      · simpa [Addr.add, h0] using hc2
  case c2 => intro u hu; obtain ⟨x, _, rfl⟩ := List.mem_map.1 hu; rfl
  case c3 => unfold maxLen; omega
  case c4 => omega
  case c5 => simp
  intro v' w1 hown' hgrow _
  obtain ⟨g, c, rfl⟩ := owns_some hown' (by omega)
  have R := hid (RowI.of_owns (l := l) hown' HN.out rfl)
  have RB := hid (below_app3 ((Below.refl w.heap.size w).alloc (Nat.le_refl _) (.cells #[] 3)) (by simp) hgrow (fun j hj => by simp [Value.ownBlock] at hj; omega))
  clear hown' hgrow he hown
  go_wp2
  go_ret
  exact ⟨g, c, rfl, R.out.1, R.out.2, RB.out⟩
end Go.Proofs.Ytlckhpfokijknae
