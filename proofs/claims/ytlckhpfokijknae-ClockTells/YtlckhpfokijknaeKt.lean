/-
  What ClockTells and ClockOwn share: the events copied, played, and a play of one.
-/
import Derived.Test.YtlckhpfokijknaeKev
import Derived.Test.YtlckhpfokijknaePl
import Derived.Test.YtlckhpfokijknaeSik
import Derived.Test.YtlckhpfokijknaeAp
namespace Go.Proofs.Ytlckhpfokijknae
open Go.RowKit

theorem evals_len (l : List Plain.Ev) : (evals l).length = l.length * 3 := by
  induction l with
  | nil => rfl
  | cons a l ih => simp [evals] at ih ⊢; omega
theorem evals_at (l : List Plain.Ev) (j : Nat) (hj : j < l.length) : (evals l)[j * 3]? = some (.int .i64 (Plain.ev l j).1) ∧ (evals l)[j * 3 + 1]? = some (.int .i64 (Plain.ev l j).2.1) ∧ (evals l)[j * 3 + 2]? = some (.int .i64 (Plain.ev l j).2.2) := by
  induction l generalizing j with
  | nil => simp at hj
  | cons a l ih =>
    have e : evals (a :: l) = [.int .i64 a.1, .int .i64 a.2.1, .int .i64 a.2.2] ++ evals l := rfl
    rw [e]
    cases j with
    | zero => exact ⟨rfl, rfl, rfl⟩
    | succ j =>
      have := ih j (by simpa using hj)
      have e2 : Plain.ev (a :: l) (j + 1) = Plain.ev l j := rfl
      rw [e2]
      refine ⟨?_, ?_, ?_⟩
      · rw [List.getElem?_append_right (by simp; omega)]; simpa [show (j + 1) * 3 - 3 = j * 3 by omega] using this.1
      · rw [List.getElem?_append_right (by simp; omega)]; simpa [show (j + 1) * 3 + 1 - 3 = j * 3 + 1 by omega] using this.2.1
      · rw [List.getElem?_append_right (by simp; omega)]; simpa [show (j + 1) * 3 + 2 - 3 = j * 3 + 2 by omega] using this.2.2
theorem evals_one (l : List Plain.Ev) : ∀ u ∈ evals l, u.oneCell' = true := by
  intro u hu
  obtain ⟨e, _, h⟩ := List.mem_flatMap.1 hu
  simp at h
  rcases h with rfl | rfl | rfl <;> rfl
theorem add_zero_at (g k : Nat) : (⟨g, 0, none⟩ : Addr).add k = ⟨g, k, none⟩ := by
  by_cases h : k = 0
  · subst h; simp [Addr.add]
  · simp [Addr.add, h]
/-- Events in a row of their own, as a slice that holds them. -/
theorem owns_cellsE {w : World} {B g c n : Nat} {l : List Plain.Ev} (h : w.ownsRow B 32 3 (.slice (some ⟨g, 0, none⟩) n c) n (evals l)) : CellsE w g 0 l := by
  intro j hj
  obtain ⟨a0, a1, a2⟩ := evals_at l j hj
  have h0 := h.cells rfl _ _ a0
  have h1 := h.cells rfl _ _ a1
  have h2 := h.cells rfl _ _ a2
  rw [add_zero_at] at h0 h1 h2
  rw [Nat.zero_add]
  exact ⟨h0, h1, h2⟩
theorem owns_segE {w : World} {B n : Nat} {v : Value} {l : List Plain.Ev} (hn : l.length = n) (h : w.ownsRow B 32 3 v n (evals l)) : SegE w v l ∧ Lies w.heap.size v := by
  subst hn
  rcases h.2 with ⟨rfl, h0⟩ | ⟨g, cap, cur, rfl, _, hg, hc, _⟩
  · exact ⟨.inl ⟨List.length_eq_zero_iff.1 h0, _, _, rfl⟩, lies_nil _ _ _⟩
  · exact ⟨.inr ⟨g, 0, cap, rfl, hc, owns_cellsE h⟩, lies_at (Array.getElem?_eq_some_iff.1 hg).1⟩

/-- The copy of the events: onto nil. -/
theorem app_copy {w : World} {B n : Nat} {x : Value} {l : List Plain.Ev} (hn : n ≤ 60) (hsrc : w.ownsRow B 32 3 x n (evals l)) :
    ∃ v' w', (Builtin.append_ #[23, 23] 23 #[.slice none 0 0, x]).run Try.prog w = .ok v' w' ∧ w'.ownsRow w.heap.size 32 3 v' n (evals l) ∧ Below w.heap.size w w' := by
  obtain ⟨i1, hi, hz0, hz1, hz2⟩ := info_parts Try.infoEvent
  obtain ⟨v', w', a1, a2, a3⟩ := run_app_owned (P := Try.prog) (ty := 23) Try.underlying23 hi hz0 hz1 hz2 rfl (by decide) (World.ownsRow_nil w w.heap.size 32 3) hsrc (evals_one l) (by unfold maxLen; omega) (by omega) (Nat.le_refl _)
  refine ⟨v', w', a1, by simpa using a2, (Below.refl _ _).grown a3 (Nat.le_refl _) fun k hk => by simp [Value.ownBlock] at hk⟩

/-- The play of the copy. -/
theorem play_evs (v : Value) (l : List Plain.Ev) (B : Nat) (w : World) (h : w.ownsRow B 32 3 v (Plain.evN l) (evals (Plain.evs l))) :
    Calls Try.prog 6 #[.int .i64 4, v] w fun e w' => ∃ bc cap, e = .returned (.tuple #[.slice (some ⟨bc, 0, none⟩) (Plain.evN l) cap, .int .i64 0]) ∧
      (∀ j, j < Plain.evN l → ∃ g c, w'.cell? ⟨bc, j, none⟩ = some (.slice (some ⟨g, 0, none⟩) 4 c) ∧ RowI w' g ((Plain.st 4 (Plain.evs l) (Plain.evN l)).2.getD j [])) ∧ bc < w'.heap.size ∧ Below w.heap.size w w' := by
  have hn := Plain.evs_len l
  have h60 : Plain.evN l ≤ 60 := by unfold Plain.evN; omega
  obtain ⟨h1, h2⟩ := owns_segE hn h
  have hok := Plain.evs_ok l
  have g := Plain.good_all (sites := 4) (l := Plain.evs l) (n := (Plain.evs l).length) (Plain.evs l).length (Nat.le_refl _) (Plain.firstE_zero hok)
  refine (play_good 4 v (Plain.evs l) (by omega) (by omega) (by omega) w h1 h2).mono ?_
  rintro e w' (⟨_, r, rfl, ⟨bc, cap, rfl, hlt, hrow⟩, hb⟩ | ⟨hf, _⟩)
  · rw [g.csLen] at hrow
    rw [g.csLen, hn]
    rw [hn] at hrow
    exact ⟨bc, cap, rfl, fun j hj => by obtain ⟨x, c, a, b, _⟩ := hrow j hj; exact ⟨x, c, a, b⟩, hlt, hb⟩
  · exact absurd hok hf

/-- The play of one act. -/
theorem play_one (b c : Nat) (hc : 1 ≤ c) (w : World) (h : CellsE w b 0 [(1, 0, 0)]) (hb : b < w.heap.size) :
    Calls Try.prog 6 #[.int .i64 1, .slice (some ⟨b, 0, none⟩) 1 c] w fun e w' => ∃ bc cap g d, e = .returned (.tuple #[.slice (some ⟨bc, 0, none⟩) 1 cap, .int .i64 0]) ∧
      w'.cell? ⟨bc, 0, none⟩ = some (.slice (some ⟨g, 0, none⟩) 1 d) ∧ RowI w' g [1] ∧ bc < w'.heap.size ∧ Below w.heap.size w w' := by
  refine (play_good 1 _ [(1, 0, 0)] (by omega) (by omega) (by simp) w (.inr ⟨b, 0, c, rfl, hc, h⟩) (lies_at hb)).mono ?_
  rintro e w' (⟨_, r, rfl, ⟨bc, cap, rfl, hlt, hrow⟩, hb⟩ | ⟨hf, _⟩)
  · obtain ⟨x, c, a, b, _⟩ := hrow 0 (by decide)
    exact ⟨bc, cap, x, c, rfl, a, b, hlt, hb⟩
  · exact absurd (by decide) hf
theorem same_one (g d b : Nat) (w : World) (h1 : RowI w g [1]) (h2 : RowI w b [1]) :
    Calls Try.prog 8 #[.slice (some ⟨g, 0, none⟩) 1 d, .slice (some ⟨b, 0, none⟩) 1 1] w fun e w' => e = .returned (.bool true) ∧ ∃ q, w' = w.drewN q := by
  have := keep.same_any _ _ [1] [1] (by simp) w (h1.seg d) (h2.seg 1)
  rwa [decide_eq_true rfl] at this
theorem lit_one (w : World) : RowI (w.alloc (.cells #[.int .i64 1] 3)) w.heap.size [1] :=
  ⟨#[.int .i64 1], Deep.blk_alloc_new _ _, by simp, fun i hi => by
    match i, hi with
    | 0, _ => rfl⟩
theorem lit_event (w : World) : CellsE (w.alloc (.cells #[.int .i64 1, .int .i64 0, .int .i64 0] 32)) w.heap.size 0 [(1, 0, 0)] := by
  intro j hj
  have := (Box.made w 1 0 0).cells
  match j, hj with
  | 0, _ => exact ⟨this.1, this.2.1, this.2.2.1⟩

theorem owns_form {w : World} {B e s n : Nat} {v : Value} {xs : List Value} (h : w.ownsRow B e s v n xs) : ∃ p c, v = .slice p n c := by
  rcases h.2 with ⟨rfl, rfl⟩ | ⟨g, cap, _, rfl, _⟩
  · exact ⟨_, _, rfl⟩
  · exact ⟨_, _, rfl⟩
theorem owns_at {w : World} {B e s n c : Nat} {p : Option Addr} {xs : List Value} (h : w.ownsRow B e s (.slice p n c) n xs) (hn : 0 < n) : ∃ g, p = some ⟨g, 0, none⟩ ∧ g < w.heap.size := by
  rcases h.2 with ⟨_, h0⟩ | ⟨g, cap, _, e, _, hg, _⟩
  · omega
  · injection e with e1 _ _
    exact ⟨g, e1, (Array.getElem?_eq_some_iff.1 hg).1⟩

/-- What lies there when the events are played: the events and their clocks. -/
structure PD (es : List Plain.Ev) (N : Nat) (B : Nat) (w : World) (p : Option Addr) (c bc : Nat) : Prop where
  len : es.length = N
  n60 : N ≤ 60
  good : Plain.Good 4 es N N
  ok : ∀ k, k < N → Plain.evE 4 es k = 0
  eown : w.ownsRow B 32 3 (.slice p N c) N (evals es)
  rows : ∀ j, j < N → ∃ g d, w.cell? ⟨bc, j, none⟩ = some (.slice (some ⟨g, 0, none⟩) 4 d) ∧ RowI w g ((Plain.st 4 es N).2.getD j [])
  lt : bc < w.heap.size
theorem PD.grow {es : List Plain.Ev} {N B : Nat} {w w' : World} {p : Option Addr} {c bc : Nat} (h : PD es N B w p c bc) (g : Below w.heap.size w w') : PD es N B w' p c bc :=
  ⟨h.len, h.n60, h.good, h.ok, owns_below h.eown g, fun j hj => by
    obtain ⟨x, d, h1, h2⟩ := h.rows j hj
    exact ⟨x, d, (g.cell (p := ⟨bc, j, none⟩) h.lt).trans h1, h2.below g h2.lt⟩, Nat.lt_of_lt_of_le h.lt g.size⟩
theorem PD.mk' {l : List Plain.Ev} {B : Nat} {w w' : World} {p : Option Addr} {c bc : Nat} (h : w.ownsRow B 32 3 (.slice p (Plain.evN l) c) (Plain.evN l) (evals (Plain.evs l))) (g : Below w.heap.size w w')
    (hrow : ∀ j, j < Plain.evN l → ∃ g c, w'.cell? ⟨bc, j, none⟩ = some (.slice (some ⟨g, 0, none⟩) 4 c) ∧ RowI w' g ((Plain.st 4 (Plain.evs l) (Plain.evN l)).2.getD j [])) (hlt : bc < w'.heap.size) : PD (Plain.evs l) (Plain.evN l) B w' p c bc := by
  have hn := Plain.evs_len l
  have hok := Plain.firstE_zero (Plain.evs_ok l)
  rw [hn] at hok
  exact ⟨hn, by unfold Plain.evN; omega, Plain.good_all (sites := 4) _ (Nat.le_refl _) hok, hok, owns_below h g, hrow, hlt⟩
/-- The event at i and its clock. -/
theorem PD.at {es : List Plain.Ev} {N B : Nat} {w : World} {p : Option Addr} {c bc : Nat} (h : PD es N B w p c bc) {i : Nat} (hi : i < N) :
    ∃ ge wn g d, p = some ⟨ge, 0, none⟩ ∧ ge < w.heap.size ∧ CellsE w ge 0 es ∧ wn < 4 ∧ Plain.wh es i = wn ∧ (Plain.ev es i).2.1 = (wn : Int) ∧ w.cell? ⟨ge, i * 3 + 1, none⟩ = some (.int .i64 (wn : Int)) ∧
      w.cell? ⟨bc, i, none⟩ = some (.slice (some ⟨g, 0, none⟩) 4 d) ∧ g < w.heap.size ∧ (∀ t, t < 4 → w.cell? ⟨g, t, none⟩ = some (.int .i64 (Plain.V 4 es N i t))) ∧ RowI w g ((Plain.st 4 es N).2.getD i []) := by
  obtain ⟨ge, rfl, hge⟩ := owns_at h.eown (by omega)
  obtain ⟨g, d, h1, h2⟩ := h.rows i hi
  have hv := Plain.evE_wh (h.ok i hi)
  obtain ⟨wn, hwn⟩ := Int.eq_ofNat_of_zero_le hv.1
  have hc := owns_cellsE h.eown
  have hc1 := (hc i (by rw [h.len]; exact hi)).2.1
  rw [Nat.zero_add, hwn] at hc1
  exact ⟨ge, wn, g, d, rfl, hge, hc, by omega, by unfold Plain.wh; rw [hwn]; rfl, hwn, hc1, h1, h2.lt, fun t ht => h2.cell (by rw [h.good.csRow i hi]; exact ht), h2⟩
theorem Deep_cell_other {w : World} {b o c i : Nat} {v : Value} (h : b ≠ c) : (w.setCell ⟨c, i, none⟩ v).cell? ⟨b, o, none⟩ = w.cell? ⟨b, o, none⟩ := cell_other (p := ⟨b, o, none⟩) h
theorem cnt_set {w : World} {B n j wj : Nat} {l : List Plain.Ev} {y : Int} (h : w.rowIs B 3 n (fun s => .int .i64 (Plain.cnt l s j : Nat))) (hw : Plain.wh l j = wj) (hy : y = (Plain.cnt l wj j : Nat) + 1) :
    (w.setCell ⟨B, wj, none⟩ (.int .i64 y)).rowIs B 3 n (fun s => .int .i64 (Plain.cnt l s (j + 1) : Nat)) := by
  refine (h.set wj _).congr fun s _ => ?_
  have e : Plain.cnt l s (j + 1) = Plain.cnt l s j + (if Plain.wh l j = s then 1 else 0) := rfl
  rw [e]
  by_cases d : s = wj
  · subst d; rw [if_pos rfl, if_pos hw, hy]; rfl
  · rw [if_neg d, if_neg (fun h => d (h.symm.trans hw))]; rfl
end Go.Proofs.Ytlckhpfokijknae
