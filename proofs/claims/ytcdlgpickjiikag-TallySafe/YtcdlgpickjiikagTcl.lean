/-
  A contract of slices.Clone at a row of numbers, wherever it lies.
-/
import Derived.Test.YtcdlgpickjiikagTm
import Derived.OwnWalk
import Derived.Deep.OwnRows
namespace Go.Proofs.Ytcdlgpickjiikag
open Go.RowKit

theorem Try.infoInt : (Try.prog.info? 3).map (fun i => (i.zero, i.size, i.bytes)) = some (some (.int .i64 0), 1, 8) := by kernel_rfl
theorem Try.infoSl : (Try.prog.info? 23).map (fun i => (i.zero, i.size, i.bytes)) = some (some (.slice none 0 0), 1, 24) := by kernel_rfl
theorem below_app3 {w W w1 : World} {B : Nat} {v : Value} (hW : Below B w W) (hB : B ≤ W.heap.size) (hg : W.grownBy w1 v.ownBlock) (hv : ∀ j, v.ownBlock = some j → B ≤ j) : Below B w w1 := hW.grown hg hB hv
theorem owns_some {w : World} {B e s n : Nat} {v : Value} {xs : List Value} (h : w.ownsRow B e s v n xs) (hn : 0 < n) : ∃ g c, v = .slice (some ⟨g, 0, none⟩) n c := by
  rcases h.2 with ⟨_, h0⟩ | ⟨g, cap, _, rfl, _⟩
  · omega
  · exact ⟨g, cap, rfl⟩
theorem addr_addI (g o k : Nat) : (⟨g, o, none⟩ : Addr).add k = ⟨g, o + k, none⟩ := by
  by_cases h : k = 0
  · subst h; simp [Addr.add]
  · simp [Addr.add, h]
/-- The cells of a row, as the builtins ask for them. -/
theorem int_cells {w : World} {b off n : Nat} {l : List Int} (hn : l.length = n) (hc : ∀ j, j < n → w.cell? ⟨b, off + j, none⟩ = some (.int .i64 (l.getD j 0))) :
    ∀ j u, (l.map (Value.int .i64))[j]? = some u → w.cell? ((⟨b, off, none⟩ : Addr).add j) = some u := by
  intro j u hj
  rw [List.getElem?_map] at hj
  cases hx : l[j]? with
  | none => rw [hx] at hj; simp at hj
  | some x =>
    rw [hx] at hj
    simp only [Option.map_some, Option.some.injEq] at hj
    subst hj
    have hlt : j < l.length := (List.getElem?_eq_some_iff.1 hx).1
    have h := hc j (by omega)
    rw [List.getD_eq_getElem?_getD, hx] at h
    rw [addr_addI]
    exact h

set_option maxHeartbeats 1000000 in
set_option maxRecDepth 100000 in
theorem clone_at (b off n cap : Nat) (l : List Int) (hn : l.length = n) (h1 : 1 ≤ n) (h8 : n ≤ 8) (w : World) (hb : b < w.heap.size) (h : ∀ j, j < n → w.cell? ⟨b, off + j, none⟩ = some (.int .i64 (l.getD j 0))) :
    Calls Try.prog 32 #[.slice (some ⟨b, off, none⟩) n cap] w fun e w' =>
      ∃ g c, e = .returned (.slice (some ⟨g, 0, none⟩) n c) ∧ RowI w' g l ∧ w.heap.size ≤ g ∧ Below w.heap.size w w' := by
  obtain ⟨i0, hi, hz0, hz1, hz2⟩ := info_parts Try.infoInt
  have H := hid (fun j (hj : j < n) => (((Below.refl w.heap.size w).alloc (Nat.le_refl _) (.cells #[] 3)).cell (p := ⟨b, off + j, none⟩) hb).trans (h j hj))
  have HN := hid hn
  clear h hn
  have he : ∀ w : World, (binOp .eql 23 (.slice (some ⟨b, off, none⟩) n cap) (.slice none 0 0)).run Try.prog w = .ok (.bool false) w := fun _ => rfl
  have hown : (w.alloc (.cells #[] 3)).ownsRow w.heap.size 3 1 (.slice (some ⟨w.heap.size, 0, none⟩) 0 0) 0 [] :=
    ⟨rfl, .inr ⟨w.heap.size, 0, #[], rfl, Nat.le_refl _, Deep.blk_alloc_new _ _, Nat.le_refl _, by unfold maxLen; omega, rfl, rfl⟩⟩
  go_enter Try.func32, Try.ntmps32
  go_wp2_with (first
    | (at_builtin; refine wpList_append_own _ rfl _ _ 23 rfl w.heap.size 3 i0 (.int .i64 0) 1 8 Try.underlying23 hi hz0 hz1 hz2 rfl (by decide) _ _ _ rfl hown ⟨b, off, none⟩ n cap (l.map (Value.int .i64)) rfl (by rw [List.length_map, HN.out]; omega) (int_cells HN.out H.out) ?c2 ?c3 ?c4 ?c5 ?_)
    | go_in)
  case c2 => intro u hu; obtain ⟨x, _, rfl⟩ := List.mem_map.1 hu; rfl
  case c3 => unfold maxLen; omega
  case c4 => omega
  case c5 => simp
  intro v' w1 hown' hgrow _
  obtain ⟨g, c, rfl⟩ := owns_some hown' (by omega)
  have R := hid (RowI.of_owns (l := l) hown' HN.out rfl)
  have RB := hid (below_app3 ((Below.refl w.heap.size w).alloc (Nat.le_refl _) (.cells #[] 3)) (by simp) hgrow (fun j hj => by simp [Value.ownBlock] at hj; omega))
  clear hown' hgrow he hown
  go_wp2
  go_ret
  exact ⟨g, c, rfl, R.out.1, R.out.2, RB.out⟩
end Go.Proofs.Ytcdlgpickjiikag
