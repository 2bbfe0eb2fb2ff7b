/-
  Rumours of what two have in common, plain; lists of entries, one behind the other.
-/
import Derived.Test.YtkmnofmhjoehiamQd
namespace Go.Proofs.Ytkmnofmhjoehiam
open Go.RowKit Go.Shelf
namespace Plain
theorem com_swap (ls : List Int) (a b : Int) (n : Nat) : comL ls a b n = comL ls b a n := by
  unfold comL
  refine List.filter_congr fun i _ => ?_
  unfold both
  rw [Bool.and_comm]
theorem com_mem {ls : List Int} {a b : Int} {n j : Nat} (hj : j < n) : j ∈ comL ls a b n ↔ both (ls.getD j 0) a b = true := by
  unfold comL
  rw [List.mem_filter, List.mem_range]
  exact ⟨fun h => h.2, fun h => ⟨hj, h⟩⟩
theorem rd_natQ (s k : Nat) (hk : k < 8) : rdB (s : Int) (k : Int) = (s / 2 ^ k % 2 == 1) := by
  unfold rdB
  rw [Int.toNat_natCast, Int.toNat_natCast, decide_eq_true (show (0 : Int) ≤ (k : Int) by omega), decide_eq_true (show (k : Int) < 8 by omega)]
  rfl
/-- What is told of lists that may be. -/
theorem rum_fine {c : Cf} {a b : Int} {st : List (List En)} (hr : refE c a b = 0) (h1 : st.length = c.ls.length) (h2 : ∀ l ∈ st, mayL l = true ∧ l.all fitE = true) :
    rumE c a b st = 0 ∧ rumB c a b st = packB (fldL 34 (flatS st (comL c.ls a b c.ls.length))) ∧ (rumB c a b st).length = 34 * (comL c.ls a b c.ls.length).length := by
  have hroom : roomB st (comL c.ls a b c.ls.length) = true := by
    unfold roomB
    rw [List.all_eq_true]
    intro j hj
    have hlt : j < st.length := by rw [h1]; exact com_lt hj
    rw [List.getD_eq_getElem?_getD, List.getElem?_eq_getElem hlt]
    exact (h2 _ (List.getElem_mem hlt)).2
  have hmay : st.all mayL = true := List.all_eq_true.2 fun l hl => (h2 l hl).1
  have hok := rum_ok hr h1 hmay hroom
  refine ⟨hok.1, hok.2, ?_⟩
  have hl := com_len c.ls a b c.ls.length
  have h4 := (may_all (ref_may hr).1).2.1
  have hlen := flatS_len st (comL c.ls a b c.ls.length)
  rw [hok.2, (pack34 (by omega) (flat_lt hmay (fun j hj => by rw [h1]; exact com_lt hj) hroom)).2, bytesOf_len]
  omega
/-- What is not for both does not stand in it. -/
theorem flat_congr (st tt : List (List En)) (js : List Nat) (h : ∀ j ∈ js, st.getD j [] = tt.getD j []) : flatS st js = flatS tt js := by
  induction js with
  | nil => rfl
  | cons x js ih =>
    show slotsL _ ++ flatS st js = slotsL _ ++ flatS tt js
    rw [h x List.mem_cons_self, ih (fun j hj => h j (List.mem_cons_of_mem _ hj))]
theorem rumB_ltQ (c : Cf) (a b : Int) (st : List (List En)) : ∀ x ∈ rumB c a b st, x < 256 := by
  intro x hx
  unfold rumB at hx
  split at hx
  · unfold packB at hx
    split at hx
    · simp only [bytesOf, List.mem_map] at hx
      obtain ⟨j, _, rfl⟩ := hx
      exact byteOf_lt _ (at0_lt _ (rbits_lt _)) j
    · simp at hx
  · simp at hx
end Plain
/-- A slice that is not empty does not lie in the block T. -/
def NotIn (T : Nat) (v : Value) : Prop := ∀ p n c, v = .slice (some p) n c → 0 < n → p.block ≠ T
theorem notIn_nil (T : Nat) (p : Option Addr) (c : Nat) : NotIn T (.slice p 0 c) := fun q n c' e hn => by injection e with _ e2 _; omega
theorem ElL.set {w : World} {u : Value} {l : List Plain.En} {T i : Nat} (h : ElL w u l) (hn : NotIn T u) (x : Value) : ElL (w.setCell ⟨T, i, none⟩ x) u l := by
  refine ⟨?_, fun p n c e hp => by have := h.li p n c e hp; simpa [World.setCell] using this, h.le⟩
  rcases h.sg with ⟨rfl, p1, c1, rfl⟩ | ⟨b1, o1, c1, rfl, hc1, g1⟩
  · exact .inl ⟨rfl, p1, c1, rfl⟩
  · refine .inr ⟨b1, o1, c1, rfl, hc1, fun j hj => ?_⟩
    have hb : b1 ≠ T := hn ⟨b1, o1, none⟩ _ _ rfl (by omega)
    have key : ∀ o, (w.setCell ⟨T, i, none⟩ x).cell? ⟨b1, o, none⟩ = w.cell? ⟨b1, o, none⟩ := fun o => World.cell?_of_block (w := w) (a := ⟨b1, o, none⟩) (RowKit.Below.heap_setCell w ⟨T, i, none⟩ x b1 hb)
    obtain ⟨c0, c1, c2, c3, c4⟩ := g1 j hj
    exact ⟨(key _).trans c0, (key _).trans c1, (key _).trans c2, (key _).trans c3, (key _).trans c4⟩
/-- Lists of entries, one behind the other. -/
structure ToI (w : World) (T n : Nat) (U : Nat → Value) (G : Nat → List Plain.En) : Prop where
  row : w.rowIs T 31 n U
  el : ∀ j, j < n → ElL w (U j) (G j) ∧ NotIn T (U j)
theorem ToI.grow {w w' : World} {T n : Nat} {U : Nat → Value} {G : Nat → List Plain.En} (h : ToI w T n U G) (b : Below w.heap.size w w') : ToI w' T n U G :=
  ⟨h.row.of_block (b.block _ h.row.lt), fun j hj => ⟨(h.el j hj).1.grow b, (h.el j hj).2⟩⟩
theorem ToI.set {w : World} {T n : Nat} {U : Nat → Value} {G : Nat → List Plain.En} (h : ToI w T n U G) (i : Nat) {u : Value} {l : List Plain.En} (hu : ElL w u l) (hn : NotIn T u) :
    ToI (w.setCell ⟨T, i, none⟩ u) T n (fun j => if j = i then u else U j) (fun j => if j = i then l else G j) := by
  refine ⟨(h.row.set i u).congr fun j _ => rfl, fun j hj => ?_⟩
  by_cases e : j = i
  · simp only [if_pos e]
    exact ⟨hu.set hn u, hn⟩
  · simp only [if_neg e]
    exact ⟨(h.el j hj).1.set (h.el j hj).2 u, (h.el j hj).2⟩
theorem ToI.congr {w : World} {T n : Nat} {U : Nat → Value} {G H : Nat → List Plain.En} (h : ToI w T n U G) (e : ∀ j, j < n → G j = H j) : ToI w T n U H :=
  ⟨h.row, fun j hj => by rw [← e j hj]; exact h.el j hj⟩
theorem ToI.segs {w : World} {T n c : Nat} {U : Nat → Value} {G : Nat → List Plain.En} (h : ToI w T n U G) (hn : n ≤ 1000) : SegLs w (.slice (some ⟨T, 0, none⟩) n c) ((List.range n).map G) := by
  refine ⟨by simp; omega, some ⟨T, 0, none⟩, c, by simp, fun _ => ⟨T, 0, rfl, h.row.lt, fun j hj => ?_⟩⟩
  rw [List.length_map, List.length_range] at hj
  refine ⟨U j, by rw [Nat.zero_add]; exact h.row.cell hj, ?_⟩
  rw [List.getD_eq_getElem?_getD, List.getElem?_map, List.getElem?_range hj]
  exact (h.el j hj).1
theorem Try.infoRowE : (Try.prog.info? 31).map (fun i => (i.zero, i.size, i.bytes)) = some (some (.slice none 0 0), 1, 24) := by kernel_rfl
theorem ToI.made (w : World) (n : Nat) : ToI (w.alloc (.cells (madeCells #[.slice none 0 0] n) 31)) w.heap.size n (fun _ => .slice none 0 0) (fun _ => []) :=
  ⟨World.rowIs_made w (.slice none 0 0) n 31, fun _ _ => ⟨⟨.inl ⟨rfl, _, _, rfl⟩, lies_nil _ _ _, by decide⟩, notIn_nil _ _ _⟩⟩
end Go.Proofs.Ytkmnofmhjoehiam
