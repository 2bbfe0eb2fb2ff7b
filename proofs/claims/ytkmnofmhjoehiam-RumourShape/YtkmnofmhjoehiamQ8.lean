/-
  append of values onto rows of their own.
-/
import Derived.Test.YtkmnofmhjoehiamQ7
import Derived.Test.YtkmnofmhjoehiamAp
import Derived.Laws.AppendOwnNone
namespace Go.Proofs.Ytkmnofmhjoehiam
open Go.RowKit Go.Shelf

theorem seg_of_owns {w : World} {base n : Nat} {v : Value} {xs : List Value} {l : List Int} (h : w.ownsRow base 3 1 v n xs) (hn : n = l.length) (hx : xs = l.map (Value.int .i64)) : Seg w v l := by
  subst hn hx
  rcases h.2 with ⟨rfl, e⟩ | ⟨g, cap, cur, rfl, _, _, _, _, _, _⟩
  · exact .inl ⟨List.length_eq_zero_iff.1 e, none, 0, rfl⟩
  · refine .inr ⟨g, 0, cap, rfl, fun j hj => ?_⟩
    have := h.cells (g := g) rfl j (.int .i64 (l.getD j 0)) (by simp [hj])
    by_cases h0 : j = 0
    · subst h0; simpa [Addr.add] using this
    · simpa [Addr.add, h0] using this
theorem lies_owns {w : World} {base n e : Nat} {v : Value} {xs : List Value} (h : w.ownsRow base e 1 v n xs) : Lies w.heap.size v := by
  intro p k c hv hk
  subst hv
  exact (h.lt p.block rfl).2
theorem owns_growQ {w w' : World} {B e s n : Nat} {v : Value} {xs : List Value} (h : w.ownsRow B e s v n xs) (b : Below w.heap.size w w') : w'.ownsRow B e s v n xs := by
  refine ⟨h.1, ?_⟩
  rcases h.2 with h0 | ⟨g, cap, cur, e1, h1, h2, h3⟩
  · exact .inl h0
  · exact .inr ⟨g, cap, cur, e1, h1, (b.block g (Array.getElem?_eq_some_iff.1 h2).1).trans h2, h3⟩
theorem app_vals {V : World} {t e B n g s by' k : Nat} {v z : Value} {xs ys : List Value} (ht : Try.prog.underlying t = some (.slice e)) (hinfo : (Try.prog.info? e).map (fun i => (i.zero, i.size, i.bytes)) = some (some z, s, by')) (hz : z.cells.size = s) (hs : 0 < s) (hy : by' ≤ 1000)
    (hown : V.ownsRow B e s v n xs) (hb : n + k ≤ 100000) (hB : B ≤ V.heap.size) (hk : 1 ≤ k) (hl : ys.length = k * s) (h1 : ∀ u ∈ ys, u.oneCell' = true) (hc : ∀ j u, ys[j]? = some u → V.cell? ⟨g, j, none⟩ = some u) (cp : Nat) :
    ∃ p c U, (Builtin.append_ #[t, t] t #[v, .slice (some ⟨g, 0, none⟩) k cp]).run Try.prog V = .ok (.slice p (n + k) c) U ∧ U.ownsRow B e s (.slice p (n + k) c) (n + k) (xs ++ ys) ∧ V.grownBy U v.ownBlock := by
  obtain ⟨j0, hi, hzz⟩ := Option.map_eq_some_iff.1 hinfo
  simp only [Prod.mk.injEq] at hzz
  obtain ⟨jz0, jz1, jz2⟩ := hzz
  have hbb : (n + k) * by' ≤ 140737488355328 := Nat.le_trans (Nat.mul_le_mul hb hy) (by decide)
  obtain ⟨v', U, h2, h3, h4, _⟩ := run_append_own (P := Try.prog) V B t t e j0 z s by' ht hi jz0 jz1 jz2 hz hs v n xs hown ⟨g, 0, none⟩ k cp ys
    hl (fun j u hu => by rw [add_at, Nat.zero_add]; exact hc j u hu) h1 (by unfold maxLen; omega) hbb hB
  rcases h3.2 with ⟨_, h0⟩ | ⟨g', cap, cur, rfl, _⟩
  · omega
  · exact ⟨_, _, U, h2, h3, h4⟩
theorem int_one (x : Int) (w : World) : ∀ j u, [Value.int .i64 x][j]? = some u → (w.alloc (.cells #[.int .i64 x] 3)).cell? ⟨w.heap.size, j, none⟩ = some u := by
  intro j u hu
  match j, hu with
  | 0, hu => simp at hu; subst hu; rw [World.cell?_alloc_at _ _ _ _ rfl]; rfl
theorem app_int {w wr : World} {B k : Nat} {v : Value} {l : List Int} (x : Int) (o : wr.ownsRow B 3 1 v k (l.map (Value.int .i64))) (hk : k ≤ 10000) (hB : B = w.heap.size) (b : Below w.heap.size w wr) :
    ∃ q d U, (Builtin.append_ #[22, 22] 22 #[v, .slice (some ⟨wr.heap.size, 0, none⟩) 1 1]).run Try.prog (wr.alloc (.cells #[.int .i64 x] 3)) = .ok (.slice q (k + 1) d) U ∧
      U.ownsRow B 3 1 (.slice q (k + 1) d) (k + 1) ((l ++ [x]).map (Value.int .i64)) ∧ Below w.heap.size w U ∧ (wr.alloc (.cells #[.int .i64 x] 3)).grownBy U v.ownBlock := by
  have bA : Below wr.heap.size wr (wr.alloc (.cells #[.int .i64 x] 3)) := (Below.refl _ _).alloc (Nat.le_refl _) _
  have hBs : B ≤ wr.heap.size := by rw [hB]; exact b.size
  obtain ⟨q, d, U, r1, r2, r3⟩ := app_vals Try.underlying22 Try.infoInt rfl (by decide) (by decide) (owns_growQ o bA) (show k + 1 ≤ 100000 by omega) (Nat.le_trans hBs bA.size) (Nat.le_refl 1) (k := 1) (ys := [.int .i64 x]) rfl (by intro u hu; simp at hu; subst hu; rfl) (int_one x wr) 1
  refine ⟨q, d, U, r1, ?_, (b.trans (bA.mono b.size)).grown r3 (by have := bA.size; have := b.size; omega) (fun j hj => by have := ((owns_growQ o bA).lt j hj).1; rw [hB] at this; exact this), r3⟩
  rw [List.map_append]
  exact r2
end Go.Proofs.Ytkmnofmhjoehiam
