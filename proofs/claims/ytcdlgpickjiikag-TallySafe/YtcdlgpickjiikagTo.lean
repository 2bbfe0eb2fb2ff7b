/-
  Tallies and deeds that came in.
-/
import Derived.Test.YtcdlgpickjiikagOs
import Derived.Test.YtcdlgpickjiikagTm
namespace Go.Proofs.Ytcdlgpickjiikag
open Go.ChangeShapes Go.WideShapes Go.ChangeAt Go.RowKit Go.Deep

theorem row_open {H : Type} {enc : TypeId × Value → H} {W : World} {t e : TypeId} {fuel : Nat} {cs : List Value} {x : DataW H × List MemPlace}
    (ht : Try.prog.underlying t = some (.slice e)) (he : Try.prog.underlying e = some (.int .i64)) (ce : Try.prog.cellsOf e = 1)
    (h : DataW.trod enc Try.prog W 0 (fun _ => true) true fuel t cs = some x) : ∃ v l, cs = [v] ∧ RowS W v l := by
  rcases open_ints ht he ce h with ⟨rfl, _⟩ | ⟨a, len, cap, zs, rfl, _, hl, hm, hz, _, hcell, hwz⟩
  · exact ⟨_, [], rfl, RowS.nil W⟩
  · obtain ⟨l, h1, h2, h3, _, h5, h6⟩ := row_seg (w := W) (a := some a) (len := len) (cap := cap) (.inr ⟨a, rfl, hl, hm, by simpa using hz, hcell, hwz⟩)
    exact ⟨_, l, rfl, h6, h5, by omega⟩
theorem tab_open {H : Type} {enc : TypeId × Value → H} {W : World} {t r e : TypeId} {fuel : Nat} {cs : List Value} {x : DataW H × List MemPlace}
    (ht : Try.prog.underlying t = some (.slice r)) (hr : Try.prog.underlying r = some (.slice e)) (he : Try.prog.underlying e = some (.int .i64)) (cr : Try.prog.cellsOf r = 1) (ce : Try.prog.cellsOf e = 1)
    (h : DataW.trod enc Try.prog W 0 (fun _ => true) true fuel t cs = some x) : ∃ v M, cs = [v] ∧ TabS W v M := by
  rcases open_slice ht h with ⟨rfl, _⟩ | ⟨ad, len, cap, m, n, D, Pl, rfl, _, hl, hm, hmm, _, hx⟩
  · exact ⟨_, [], rfl, TabS.nil W⟩
  have hml : cap ≤ 9223372036854775807 := hm
  have hlm : len ≤ m := by rw [hmm]; split <;> omega
  have key : ∀ i, i < len → ∃ y : Value × List Int, W.cell? (ad.add i) = some y.1 ∧ RowS W y.1 y.2 := by
    intro i hi
    obtain ⟨cs', h1, h2⟩ := hx i (by omega)
    rw [cr, Nat.mul_one] at h1
    obtain ⟨_, hlen, hcell⟩ := World.cells?_some h1
    obtain ⟨v, l, rfl, h3⟩ := row_open hr he ce h2
    have h4 := hcell 0 (by omega)
    rw [add_add, Nat.add_zero] at h4
    exact ⟨(v, l), by simpa using h4, h3⟩
  by_cases h0 : len = 0
  · subst h0
    exact ⟨_, [], rfl, by decide, _, _, rfl, fun h => by simp at h⟩
  obtain ⟨sb, so, spot⟩ := ad
  obtain ⟨y0, hy0, _⟩ := key 0 (by omega)
  have hspot : spot = none := by simpa [Addr.add] using World.cell?_spot hy0
  subst hspot
  obtain ⟨F, hF⟩ : ∃ F : Nat → Value × List Int, ∀ i, i < len → W.cell? ((⟨sb, so, none⟩ : Addr).add i) = some (F i).1 ∧ RowS W (F i).1 (F i).2 :=
    ⟨fun i => if h : i < len then (key i h).choose else (.bool false, []), fun i hi => by
      simp only [dif_pos hi]
      exact (key i hi).choose_spec⟩
  refine ⟨_, (List.range len).map fun i => (F i).2, rfl, by simp; omega, some ⟨sb, so, none⟩, cap, by simp, fun _ => ⟨sb, so, rfl, ?_, fun j hj => ?_⟩⟩
  · rw [add_at] at hy0
    exact World.block_lt_of_cell? (w := W) (h := hy0)
  · rw [List.length_map, List.length_range] at hj
    refine ⟨(F j).1, by rw [← add_at]; exact (hF j hj).1, ?_⟩
    rw [Plain.getD_lt _ _ _ (by simpa using hj)]
    simpa using (hF j hj).2

theorem ta_open {H : Type} {enc : TypeId × Value → H} {W : World} {d : DataW H} {p : List MemPlace} {v : Value} {s t r e : TypeId} {base : Nat} {q : Reach} {f0 f1 : Field}
    (hs : Try.prog.underlying s = some (.struct #[f0, f1])) (cs : Try.prog.cellsOf s = 2) (o0 : f0.offset = 0) (t0 : f0.type = t) (o1 : f1.offset = 1) (t1 : f1.type = r)
    (ht : Try.prog.underlying t = some (.slice r)) (ct : Try.prog.cellsOf t = 1) (hr : Try.prog.underlying r = some (.slice e)) (he : Try.prog.underlying e = some (.int .i64)) (cr : Try.prog.cellsOf r = 1) (ce : Try.prog.cellsOf e = 1)
    (hval : Value.okWide Try.prog W q base s v) (h : DataW.Trod enc Try.prog W 0 (fun _ => true) true s v d p) : ∃ vm vu tt, v = aggT vm vu ∧ HasT W vm vu tt := by
  obtain ⟨cs0, rfl, hcs⟩ := okWide_struct hs hval
  rw [cs] at hcs
  obtain ⟨fuel, hfu⟩ := h
  obtain ⟨xs, k, _, _, _, hxl, hg⟩ := DataW.trod_struct hs hfu
  have e0 : cs0.toList = [cs0[0], cs0[1]] := by
    apply List.ext_getElem
    · simpa using hcs
    · intro i h1 h2
      match i, h2 with
      | 0, _ => simp
      | 1, _ => simp
  have g0 := hg 0 f0 rfl
  have g1 := hg 1 f1 rfl
  have ec : (Value.agg cs0).cells.toList = [cs0[0], cs0[1]] := e0
  rw [ec, o0, t0, ct] at g0
  rw [ec, o1, t1, cr] at g1
  rw [List.getElem?_eq_getElem (by rw [hxl]; simp)] at g0 g1
  obtain ⟨vm, M, hM, h2⟩ := tab_open ht hr he cr ce g0
  obtain ⟨vu, l, hL, h3⟩ := row_open hr he ce g1
  simp only [List.drop_zero, List.take_succ_cons, List.take_zero, List.cons.injEq, and_true] at hM
  simp only [List.drop_succ_cons, List.drop_zero, List.take_succ_cons, List.take_zero, List.cons.injEq, and_true] at hL
  refine ⟨vm, vu, ⟨M, l⟩, ?_, h2, h3⟩
  have e2 : cs0 = #[cs0[0], cs0[1]] := by
    apply Array.ext'
    exact e0
  show _ = Value.agg #[vm, vu]
  rw [e2, hM, hL]

abbrev aggD (d : Plain.De) : Value := .agg #[.int .i64 d.kind, .int .i64 d.who, .int .i64 d.to, .int .i64 d.count]
/-- The numbers of a deed are integers of the machine. -/
structure InD (d : Plain.De) : Prop where
  k : -9223372036854775808 ≤ d.kind ∧ d.kind ≤ 9223372036854775807
  w : -9223372036854775808 ≤ d.who ∧ d.who ≤ 9223372036854775807
  t : -9223372036854775808 ≤ d.to ∧ d.to ≤ 9223372036854775807
  c : -9223372036854775808 ≤ d.count ∧ d.count ≤ 9223372036854775807
/-- The fields of a deed's type. -/
def FieldsD (fs : Array Field) : Prop := fs.size = 4 ∧ ∀ (j : Nat) (f : Field), fs[j]? = some f → f.offset = j ∧ Try.prog.cellsOf f.type = 1 ∧ Try.prog.underlying f.type = some (.int .i64)
theorem de_open {H : Type} {enc : TypeId × Value → H} {W : World} {d : DataW H} {p : List MemPlace} {v : Value} {e : TypeId} {base : Nat} {r : Reach} {fs : Array Field}
    (he : Try.prog.underlying e = some (.struct fs)) (ce : Try.prog.cellsOf e = 4) (hf : FieldsD fs) (hval : Value.okWide Try.prog W r base e v)
    (h : DataW.Trod enc Try.prog W 0 (fun _ => true) true e v d p) : ∃ x : Plain.De, v = aggD x ∧ InD x := by
  obtain ⟨cs, rfl, hcs⟩ := okWide_struct he hval
  rw [ce] at hcs
  obtain ⟨fuel, hfu⟩ := h
  obtain ⟨xs, k, _, _, _, hxl, hg⟩ := DataW.trod_struct he hfu
  have hint : ∀ j (hj : j < 4), ∃ z : Int, cs[j] = .int .i64 z ∧ -9223372036854775808 ≤ z ∧ z ≤ 9223372036854775807 := by
    intro j hj
    have hj2 : fs[j]? = some (fs[j]'(by rw [hf.1]; omega)) := Array.getElem?_eq_getElem _
    have g := hg j _ hj2
    obtain ⟨ho, hc1, hu⟩ := hf.2 j _ hj2
    rw [ho, hc1] at g
    have e2 : ((Value.agg cs).cells.toList.drop j).take 1 = [cs[j]] := by
      show (cs.toList.drop j).take 1 = [cs[j]]
      rw [List.drop_eq_getElem_cons (by simpa using (by omega : j < cs.size))]
      simp
    rw [e2, List.getElem?_eq_getElem (by rw [hxl, hf.1]; omega)] at g
    obtain ⟨z, h3, _, h4⟩ := DataW.trod_int hu g
    simp only [List.cons.injEq, and_true] at h3
    exact ⟨z, h3, bounds_i64 h4⟩
  obtain ⟨k0, k1, k2⟩ := hint 0 (by omega)
  obtain ⟨v0, v1, v2⟩ := hint 1 (by omega)
  obtain ⟨t0, t1, t2⟩ := hint 2 (by omega)
  obtain ⟨o0, o1, o2⟩ := hint 3 (by omega)
  refine ⟨⟨k0, v0, t0, o0⟩, ?_, ⟨k2, v2, t2, o2⟩⟩
  have e : cs = #[cs[0], cs[1], cs[2], cs[3]] := by
    apply Array.ext
    · simpa using hcs
    · intro i h1 h2
      rw [hcs] at h1
      match i, h1 with
      | 0, _ => rfl
      | 1, _ => rfl
      | 2, _ => rfl
      | 3, _ => rfl
  rw [e, k1, v1, t1, o1]

/-- The four cells of a deed. -/
structure CellD (w : World) (b o : Nat) (d : Plain.De) : Prop where
  c0 : w.cell? ⟨b, o, none⟩ = some (.int .i64 d.kind)
  c1 : w.cell? ⟨b, o + 1, none⟩ = some (.int .i64 d.who)
  c2 : w.cell? ⟨b, o + 2, none⟩ = some (.int .i64 d.to)
  c3 : w.cell? ⟨b, o + 3, none⟩ = some (.int .i64 d.count)
theorem CellD.below {w w' : World} {b o B : Nat} {d : Plain.De} (h : CellD w b o d) (g : Below B w w') (hlt : b < B) : CellD w' b o d :=
  ⟨(g.cell (p := ⟨b, o, none⟩) hlt).trans h.c0, (g.cell (p := ⟨b, o + 1, none⟩) hlt).trans h.c1, (g.cell (p := ⟨b, o + 2, none⟩) hlt).trans h.c2, (g.cell (p := ⟨b, o + 3, none⟩) hlt).trans h.c3⟩
/-- The slice v holds the deeds l. -/
def SegD (w : World) (v : Value) (l : List Plain.De) : Prop :=
  l.length ≤ 9223372036854775807 ∧ ∃ p cap, v = .slice p l.length cap ∧ (0 < l.length → ∃ b off, p = some ⟨b, off, none⟩ ∧ b < w.heap.size ∧ ∀ j, j < l.length → CellD w b (off + j * 4) (l.getD j default))
theorem SegD.grow {w w' : World} {v : Value} {l : List Plain.De} (h : SegD w v l) (g : Below w.heap.size w w') : SegD w' v l := by
  obtain ⟨hm, p, cap, rfl, hp⟩ := h
  refine ⟨hm, p, cap, rfl, fun h0 => ?_⟩
  obtain ⟨b, off, rfl, hb, hc⟩ := hp h0
  exact ⟨b, off, rfl, Nat.lt_of_lt_of_le hb g.size, fun j hj => (hc j hj).below g hb⟩
theorem des_open {H : Type} {enc : TypeId × Value → H} {W : World} {d : DataW H} {p : List MemPlace} {a : Option Addr} {len cap : Nat} {t e : TypeId} {fs : Array Field}
    (ht : Try.prog.underlying t = some (.slice e)) (he : Try.prog.underlying e = some (.struct fs)) (ce : Try.prog.cellsOf e = 4) (hf : FieldsD fs)
    (h : DataW.Trod enc Try.prog W 0 (fun _ => true) true t (.slice a len cap) d p) :
    ∃ l : List Plain.De, SegD W (.slice a len cap) l ∧ ∀ j, j < l.length → InD (l.getD j default) := by
  obtain ⟨fuel, hfu⟩ := h
  obtain ⟨A, hA, hlc, hcm, _, hc⟩ := open_struct_ints ht he ce (by decide) hf.1 hf.2 hfu
  have hat : ∀ j, j < len → ((List.range len).map (fun i => (⟨A i 0, A i 1, A i 2, A i 3⟩ : Plain.De))).getD j default = ⟨A j 0, A j 1, A j 2, A j 3⟩ := by
    intro j hj
    rw [Plain.getD_lt _ _ _ (by simpa using hj)]
    simp
  refine ⟨(List.range len).map (fun i => ⟨A i 0, A i 1, A i 2, A i 3⟩), ⟨by simp; omega, a, cap, by simp, fun h0 => ?_⟩, fun j hj => ?_⟩
  · rw [List.length_map, List.length_range] at h0
    obtain ⟨b, off, rfl, hb, hcell⟩ := hc h0
    refine ⟨b, off, rfl, hb, fun j hj => ?_⟩
    rw [List.length_map, List.length_range] at hj
    rw [hat j hj]
    exact ⟨hcell j 0 hj (by omega), hcell j 1 hj (by omega), hcell j 2 hj (by omega), hcell j 3 hj (by omega)⟩
  · rw [List.length_map, List.length_range] at hj
    rw [hat j hj]
    exact ⟨hA j 0 hj (by omega), hA j 1 hj (by omega), hA j 2 hj (by omega), hA j 3 hj (by omega)⟩
end Go.Proofs.Ytcdlgpickjiikag
