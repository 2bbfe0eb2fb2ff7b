/-
  Configs that came in.
-/
import Derived.Test.YtlmiomfbpeondanQ2
import Derived.Test.YtlmiomfbpeondanOs
namespace Go.Proofs.Ytlmiomfbpeondan
open Go.ChangeShapes Go.WideShapes Go.ChangeAt Go.RowKit Go.Deep

theorem nums_open {H : Type} {enc : TypeId × Value → H} {W : World} {t e : TypeId} {fuel : Nat} {cs : List Value} {x : DataW H × List MemPlace}
    (ht : Try.prog.underlying t = some (.slice e)) (he : Try.prog.underlying e = some (.int .i64)) (ce : Try.prog.cellsOf e = 1)
    (h : DataW.trod enc Try.prog W 0 (fun _ => true) true fuel t cs = some x) :
    ∃ v, ∃ l : List Int, cs = [v] ∧ Seg W v l ∧ Lies W.heap.size v ∧ l.length ≤ 9223372036854775807 ∧ ∀ n ∈ l, (Lit.int .i64 n).wf = true := by
  rcases open_ints ht he ce h with ⟨rfl, _⟩ | ⟨a, len, cap, zs, rfl, _, hl, hm, hz, _, hcell, hwz⟩
  · exact ⟨_, [], rfl, Seg.nil W, lies_nil _ _ _, by decide, fun n hn => by simp at hn⟩
  · obtain ⟨l, h1, h2, h3, h4, h5, h6⟩ := row_seg (w := W) (a := some a) (len := len) (cap := cap) (.inr ⟨a, rfl, hl, hm, by simpa using hz, hcell, hwz⟩)
    exact ⟨_, l, rfl, h6, h5, by omega, h4⟩

set_option maxRecDepth 100000 in
theorem cf_open {H : Type} {enc : TypeId × Value → H} {W : World} {d : DataW H} {p : List MemPlace} {v : Value} {s t e : TypeId} {base : Nat} {q : Reach} {f0 f1 f2 f3 f4 : Field}
    (hs : Try.prog.underlying s = some (.struct #[f0, f1, f2, f3, f4])) (cs : Try.prog.cellsOf s = 5) (o0 : f0.offset = 0 ∧ f0.type = e) (o1 : f1.offset = 1 ∧ f1.type = t) (o2 : f2.offset = 2 ∧ f2.type = e) (o3 : f3.offset = 3 ∧ f3.type = t) (o4 : f4.offset = 4 ∧ f4.type = e)
    (ht : Try.prog.underlying t = some (.slice e)) (ct : Try.prog.cellsOf t = 1) (he : Try.prog.underlying e = some (.int .i64)) (ce : Try.prog.cellsOf e = 1)
    (hval : Value.okWide Try.prog W q base s v) (h : DataW.Trod enc Try.prog W 0 (fun _ => true) true s v d p) :
    ∃ c lv mv, v = cfV c lv mv ∧ CfI W c lv mv ∧ (-9223372036854775808 ≤ c.n ∧ c.n ≤ 9223372036854775807) ∧ (-9223372036854775808 ≤ c.t ∧ c.t ≤ 9223372036854775807) ∧ (-9223372036854775808 ≤ c.cap ∧ c.cap ≤ 9223372036854775807) := by
  obtain ⟨cs0, rfl, hcs⟩ := okWide_struct hs hval
  rw [cs] at hcs
  obtain ⟨fuel, hfu⟩ := h
  obtain ⟨xs, k, _, _, _, hxl, hg⟩ := DataW.trod_struct hs hfu
  have e0 : cs0.toList = [cs0[0], cs0[1], cs0[2], cs0[3], cs0[4]] := by
    apply List.ext_getElem
    · simpa using hcs
    · intro i h1 h2
      match i, h2 with
      | 0, _ => simp
      | 1, _ => simp
      | 2, _ => simp
      | 3, _ => simp
      | 4, _ => simp
  have g0 := hg 0 f0 rfl
  have g1 := hg 1 f1 rfl
  have g2 := hg 2 f2 rfl
  have g3 := hg 3 f3 rfl
  have g4 := hg 4 f4 rfl
  have ec : (Value.agg cs0).cells.toList = [cs0[0], cs0[1], cs0[2], cs0[3], cs0[4]] := e0
  rw [ec, o0.1, o0.2, ce] at g0
  rw [ec, o1.1, o1.2, ct] at g1
  rw [ec, o2.1, o2.2, ce] at g2
  rw [ec, o3.1, o3.2, ct] at g3
  rw [ec, o4.1, o4.2, ce] at g4
  rw [List.getElem?_eq_getElem (by rw [hxl]; simp)] at g0 g1 g2 g3 g4
  obtain ⟨z0, a0, _, b0⟩ := DataW.trod_int he g0
  obtain ⟨lv, ll, a1, s1, y1, m1, r1⟩ := nums_open ht he ce g1
  obtain ⟨z2, a2, _, b2⟩ := DataW.trod_int he g2
  obtain ⟨mv, ml, a3, s3, y3, m3, r3⟩ := nums_open ht he ce g3
  obtain ⟨z4, a4, _, b4⟩ := DataW.trod_int he g4
  simp only [List.drop_succ_cons, List.drop_zero, List.take_succ_cons, List.take_zero, List.cons.injEq, and_true] at a0 a1 a2 a3 a4
  refine ⟨⟨z0, ll, z2, ml, z4⟩, lv, mv, ?_, ⟨s1, y1, s3, y3, fun x hx => bounds_i64 (r1 x hx), m1, m3⟩, bounds_i64 b0, bounds_i64 b2, bounds_i64 b4⟩
  have e2 : cs0 = #[cs0[0], cs0[1], cs0[2], cs0[3], cs0[4]] := by
    apply Array.ext'
    exact e0
  show _ = Value.agg #[.int .i64 z0, lv, .int .i64 z2, mv, .int .i64 z4]
  rw [e2, a0, a1, a2, a3, a4]
end Go.Proofs.Ytlmiomfbpeondan
