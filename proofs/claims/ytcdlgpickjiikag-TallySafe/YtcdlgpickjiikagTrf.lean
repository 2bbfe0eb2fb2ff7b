/-
  A contract of tally.refuse.
-/
import Derived.Test.YtcdlgpickjiikagTlr
import Derived.Test.YtcdlgpickjiikagTo
namespace Go.Proofs.Ytcdlgpickjiikag
open Go.RowKit Go.Sort

namespace Plain
theorem refE_form {t : Ta} (d : De) (h : mayT t = false) : refE t d = 4 := by unfold refE; rw [if_neg (by rw [h]; simp)]
theorem refE_kind {t : Ta} {d : De} (h : mayT t = true) (hk : ¬ (d.kind = 1 ∨ d.kind = 2 ∨ d.kind = 3)) : refE t d = 3 := by unfold refE; rw [if_pos h, if_neg hk]
theorem refE_range {t : Ta} {d : De} (h : mayT t = true) (hk : d.kind = 1 ∨ d.kind = 2 ∨ d.kind = 3) (hr : ¬ ((0 ≤ d.who ∧ d.who < t.used.length) ∧ (d.kind = 2 → (0 ≤ d.to ∧ d.to < t.used.length) ∧ d.to ≠ d.who) ∧ 1 ≤ d.count ∧ d.count ≤ 1048576)) : refE t d = 2 := by
  unfold refE; rw [if_pos h, if_pos hk, if_neg hr]
theorem refE_less {t : Ta} {d : De} (h : mayT t = true) (hk : d.kind = 1 ∨ d.kind = 2 ∨ d.kind = 3) (hr : (0 ≤ d.who ∧ d.who < t.used.length) ∧ (d.kind = 2 → (0 ≤ d.to ∧ d.to < t.used.length) ∧ d.to ≠ d.who) ∧ 1 ≤ d.count ∧ d.count ≤ 1048576) (hl : d.kind ≠ 1 ∧ leftT t d.who.toNat < d.count) : refE t d = 9 := by
  unfold refE; rw [if_pos h, if_pos hk, if_pos hr, if_pos hl]
theorem refE_zero {t : Ta} {d : De} (h : mayT t = true) (hk : d.kind = 1 ∨ d.kind = 2 ∨ d.kind = 3) (hr : (0 ≤ d.who ∧ d.who < t.used.length) ∧ (d.kind = 2 → (0 ≤ d.to ∧ d.to < t.used.length) ∧ d.to ≠ d.who) ∧ 1 ≤ d.count ∧ d.count ≤ 1048576) (hl : ¬ (d.kind ≠ 1 ∧ leftT t d.who.toNat < d.count)) : refE t d = 0 := by
  unfold refE; rw [if_pos h, if_pos hk, if_pos hr, if_neg hl]
end Plain

/-- A deed in a box. -/
abbrev boxD (d : Plain.De) : Obj := .cells #[.int .i64 d.kind, .int .i64 d.who, .int .i64 d.to, .int .i64 d.count] 42
/-- What a function that was handed a tally and a deed has. -/
structure SD (w0 w : World) (xb yb : Nat) (vm vu : Value) (t : Plain.Ta) (d : Plain.De) : Prop where
  st : St w0 w xb vm vu t
  lt : yb < w.heap.size
  d : CellD w yb 0 d
theorem box_cellD (w : World) (d : Plain.De) : CellD (w.alloc (boxD d)) w.heap.size 0 d :=
  ⟨by rw [World.cell?_alloc_at _ _ _ _ rfl]; rfl, by rw [World.cell?_alloc_at _ _ _ _ rfl]; rfl, by rw [World.cell?_alloc_at _ _ _ _ rfl]; rfl, by rw [World.cell?_alloc_at _ _ _ _ rfl]; rfl⟩
theorem SD.start {w : World} {vm vu : Value} {t : Plain.Ta} (h : HasT w vm vu t) (d : Plain.De) : SD w ((w.alloc (boxT vm vu)).alloc (boxD d)) w.heap.size (w.heap.size + 1) vm vu t d :=
  ⟨(St.start h).step ((Below.refl _ _).alloc (Nat.le_refl _) _), by simp, by have := box_cellD (w.alloc (boxT vm vu)) d; simpa using this⟩
theorem SD.step {w0 w w' : World} {xb yb : Nat} {vm vu : Value} {t : Plain.Ta} {d : Plain.De} (h : SD w0 w xb yb vm vu t d) (g : Below w.heap.size w w') : SD w0 w' xb yb vm vu t d :=
  ⟨h.st.step g, Nat.lt_of_lt_of_le h.lt g.size, h.d.below g h.lt⟩

set_option maxHeartbeats 2000000 in
theorem refuse_1 (vm vu : Value) (t : Plain.Ta) (wh to ct : Int) (w : World) (h : HasT w vm vu t) (M : Hid (Plain.mayT t = true)) :
    Calls Try.prog 30 #[aggT vm vu, aggD ⟨1, wh, to, ct⟩] w fun e w' => e = .returned (.int .i64 (Plain.refE t ⟨1, wh, to, ct⟩ : Nat)) ∧ Below w.heap.size w w' := by
  have S0 := hid (SD.start h ⟨1, wh, to, ct⟩)
  have hk : (⟨1, wh, to, ct⟩ : Plain.De).kind = 1 ∨ (⟨1, wh, to, ct⟩ : Plain.De).kind = 2 ∨ (⟨1, wh, to, ct⟩ : Plain.De).kind = 3 := .inl rfl
  clear h
  by_cases hw : 0 ≤ wh ∧ wh < t.used.length
  case neg =>
    rw [Plain.refE_range M.out hk (fun h => hw h.1)]
    have HW := hid hw
    clear hw hk
    go_enter Try.func30, Try.ntmps30
    go_wp2_with fail
    refine (may_g _ _ t _ S0.out.st.has).mono ?_
    rw [M.out]
    rintro e w1 ⟨rfl, q1, os1, h1⟩
    have S1 := hid (S0.out.step (w' := w1) (by rw [h1]; exact grow_below _ _ _))
    clear h1 S0
    have x0 := S1.out.st.x0
    have x1 := S1.out.st.x1
    obtain ⟨y0, y1, y2, y3⟩ := S1.out.d
    simp only [Nat.zero_add] at y1 y2 y3
    go_wp2_with fail
    refine (isBranch_g _ _ t wh _ S1.out.st.has).mono ?_
    rw [decide_eq_false HW.out]
    rintro e w2 ⟨rfl, q2, os2, h2⟩
    have S2 := hid (S1.out.step (w' := w2) (by rw [h2]; exact grow_below _ _ _))
    clear x0 x1 y0 y1 y2 y3
    clear h2 S1
    have x0 := S2.out.st.x0
    have x1 := S2.out.st.x1
    obtain ⟨y0, y1, y2, y3⟩ := S2.out.d
    simp only [Nat.zero_add] at y1 y2 y3
    go_wp2
    go_ret
    exact ⟨rfl, S2.out.st.bel⟩
  have HW := hid hw
  by_cases hc0 : ct < 1
  · rw [Plain.refE_range M.out hk (fun h => by have := h.2.2.1; simp only [] at this; omega)]
    clear hk hw
    go_enter Try.func30, Try.ntmps30
    go_wp2_with fail
    refine (may_g _ _ t _ S0.out.st.has).mono ?_
    rw [M.out]
    rintro e w1 ⟨rfl, q1, os1, h1⟩
    have S1 := hid (S0.out.step (w' := w1) (by rw [h1]; exact grow_below _ _ _))
    clear h1 S0
    have x0 := S1.out.st.x0
    have x1 := S1.out.st.x1
    obtain ⟨y0, y1, y2, y3⟩ := S1.out.d
    simp only [Nat.zero_add] at y1 y2 y3
    go_wp2_with fail
    refine (isBranch_g _ _ t wh _ S1.out.st.has).mono ?_
    rw [decide_eq_true HW.out]
    rintro e w2 ⟨rfl, q2, os2, h2⟩
    have S2 := hid (S1.out.step (w' := w2) (by rw [h2]; exact grow_below _ _ _))
    clear x0 x1 y0 y1 y2 y3
    clear h2 S1
    have x0 := S2.out.st.x0
    have x1 := S2.out.st.x1
    obtain ⟨y0, y1, y2, y3⟩ := S2.out.d
    simp only [Nat.zero_add] at y1 y2 y3
    go_wp2
    go_ret
    exact ⟨rfl, S2.out.st.bel⟩
  by_cases hc1 : 1048576 < ct
  · rw [Plain.refE_range M.out hk (fun h => by have := h.2.2.2; simp only [] at this; omega)]
    clear hk hw
    go_enter Try.func30, Try.ntmps30
    go_wp2_with fail
    refine (may_g _ _ t _ S0.out.st.has).mono ?_
    rw [M.out]
    rintro e w1 ⟨rfl, q1, os1, h1⟩
    have S1 := hid (S0.out.step (w' := w1) (by rw [h1]; exact grow_below _ _ _))
    clear h1 S0
    have x0 := S1.out.st.x0
    have x1 := S1.out.st.x1
    obtain ⟨y0, y1, y2, y3⟩ := S1.out.d
    simp only [Nat.zero_add] at y1 y2 y3
    go_wp2_with fail
    refine (isBranch_g _ _ t wh _ S1.out.st.has).mono ?_
    rw [decide_eq_true HW.out]
    rintro e w2 ⟨rfl, q2, os2, h2⟩
    have S2 := hid (S1.out.step (w' := w2) (by rw [h2]; exact grow_below _ _ _))
    clear x0 x1 y0 y1 y2 y3
    clear h2 S1
    have x0 := S2.out.st.x0
    have x1 := S2.out.st.x1
    obtain ⟨y0, y1, y2, y3⟩ := S2.out.d
    simp only [Nat.zero_add] at y1 y2 y3
    go_wp2
    go_ret
    exact ⟨rfl, S2.out.st.bel⟩
  have hr : (0 ≤ (⟨1, wh, to, ct⟩ : Plain.De).who ∧ (⟨1, wh, to, ct⟩ : Plain.De).who < t.used.length) ∧ ((⟨1, wh, to, ct⟩ : Plain.De).kind = 2 → (0 ≤ (⟨1, wh, to, ct⟩ : Plain.De).to ∧ (⟨1, wh, to, ct⟩ : Plain.De).to < t.used.length) ∧ (⟨1, wh, to, ct⟩ : Plain.De).to ≠ (⟨1, wh, to, ct⟩ : Plain.De).who) ∧ 1 ≤ (⟨1, wh, to, ct⟩ : Plain.De).count ∧ (⟨1, wh, to, ct⟩ : Plain.De).count ≤ 1048576 := ⟨hw, fun h => by simp at h, by simp only []; omega, by simp only []; omega⟩
  rw [Plain.refE_zero M.out hk hr (fun h => h.1 rfl)]
  clear hr hk hw
  go_enter Try.func30, Try.ntmps30
  go_wp2_with fail
  refine (may_g _ _ t _ S0.out.st.has).mono ?_
  rw [M.out]
  rintro e w1 ⟨rfl, q1, os1, h1⟩
  have S1 := hid (S0.out.step (w' := w1) (by rw [h1]; exact grow_below _ _ _))
  clear h1 S0
  have x0 := S1.out.st.x0
  have x1 := S1.out.st.x1
  obtain ⟨y0, y1, y2, y3⟩ := S1.out.d
  simp only [Nat.zero_add] at y1 y2 y3
  go_wp2_with fail
  refine (isBranch_g _ _ t wh _ S1.out.st.has).mono ?_
  rw [decide_eq_true HW.out]
  rintro e w2 ⟨rfl, q2, os2, h2⟩
  have S2 := hid (S1.out.step (w' := w2) (by rw [h2]; exact grow_below _ _ _))
  clear x0 x1 y0 y1 y2 y3
  clear h2 S1
  have x0 := S2.out.st.x0
  have x1 := S2.out.st.x1
  obtain ⟨y0, y1, y2, y3⟩ := S2.out.d
  simp only [Nat.zero_add] at y1 y2 y3
  go_wp2
  go_quiet (fail)
  have S9 := hid (S2.out.step (w' := w2.drewN nq) (grow_below w2 nq #[]))
  go_wp2
  go_ret
  exact ⟨rfl, S9.out.st.bel⟩

set_option maxHeartbeats 2000000 in
theorem refuse_2 (vm vu : Value) (t : Plain.Ta) (wh to ct : Int) (w : World) (h : HasT w vm vu t) (M : Hid (Plain.mayT t = true)) :
    Calls Try.prog 30 #[aggT vm vu, aggD ⟨2, wh, to, ct⟩] w fun e w' => e = .returned (.int .i64 (Plain.refE t ⟨2, wh, to, ct⟩ : Nat)) ∧ Below w.heap.size w w' := by
  have S0 := hid (SD.start h ⟨2, wh, to, ct⟩)
  have hk : (⟨2, wh, to, ct⟩ : Plain.De).kind = 1 ∨ (⟨2, wh, to, ct⟩ : Plain.De).kind = 2 ∨ (⟨2, wh, to, ct⟩ : Plain.De).kind = 3 := .inr (.inl rfl)
  clear h
  by_cases hw : 0 ≤ wh ∧ wh < t.used.length
  case neg =>
    rw [Plain.refE_range M.out hk (fun h => hw h.1)]
    have HW := hid hw
    clear hw hk
    go_enter Try.func30, Try.ntmps30
    go_wp2_with fail
    refine (may_g _ _ t _ S0.out.st.has).mono ?_
    rw [M.out]
    rintro e w1 ⟨rfl, q1, os1, h1⟩
    have S1 := hid (S0.out.step (w' := w1) (by rw [h1]; exact grow_below _ _ _))
    clear h1 S0
    have x0 := S1.out.st.x0
    have x1 := S1.out.st.x1
    obtain ⟨y0, y1, y2, y3⟩ := S1.out.d
    simp only [Nat.zero_add] at y1 y2 y3
    go_wp2_with fail
    refine (isBranch_g _ _ t wh _ S1.out.st.has).mono ?_
    rw [decide_eq_false HW.out]
    rintro e w2 ⟨rfl, q2, os2, h2⟩
    have S2 := hid (S1.out.step (w' := w2) (by rw [h2]; exact grow_below _ _ _))
    clear x0 x1 y0 y1 y2 y3
    clear h2 S1
    have x0 := S2.out.st.x0
    have x1 := S2.out.st.x1
    obtain ⟨y0, y1, y2, y3⟩ := S2.out.d
    simp only [Nat.zero_add] at y1 y2 y3
    go_wp2
    go_ret
    exact ⟨rfl, S2.out.st.bel⟩
  have HW := hid hw
  by_cases ht : 0 ≤ to ∧ to < t.used.length
  case neg =>
    rw [Plain.refE_range M.out hk (fun h => ht (h.2.1 rfl).1)]
    have HT := hid ht
    clear ht hk hw
    go_enter Try.func30, Try.ntmps30
    go_wp2_with fail
    refine (may_g _ _ t _ S0.out.st.has).mono ?_
    rw [M.out]
    rintro e w1 ⟨rfl, q1, os1, h1⟩
    have S1 := hid (S0.out.step (w' := w1) (by rw [h1]; exact grow_below _ _ _))
    clear h1 S0
    have x0 := S1.out.st.x0
    have x1 := S1.out.st.x1
    obtain ⟨y0, y1, y2, y3⟩ := S1.out.d
    simp only [Nat.zero_add] at y1 y2 y3
    go_wp2_with fail
    refine (isBranch_g _ _ t wh _ S1.out.st.has).mono ?_
    rw [decide_eq_true HW.out]
    rintro e w2 ⟨rfl, q2, os2, h2⟩
    have S2 := hid (S1.out.step (w' := w2) (by rw [h2]; exact grow_below _ _ _))
    clear x0 x1 y0 y1 y2 y3
    clear h2 S1
    have x0 := S2.out.st.x0
    have x1 := S2.out.st.x1
    obtain ⟨y0, y1, y2, y3⟩ := S2.out.d
    simp only [Nat.zero_add] at y1 y2 y3
    go_wp2_with fail
    refine (isBranch_g _ _ t to _ S2.out.st.has).mono ?_
    rw [decide_eq_false HT.out]
    rintro e w3 ⟨rfl, q3, os3, h3⟩
    have S3 := hid (S2.out.step (w' := w3) (by rw [h3]; exact grow_below _ _ _))
    clear x0 x1 y0 y1 y2 y3
    clear h3 S2
    have x0 := S3.out.st.x0
    have x1 := S3.out.st.x1
    obtain ⟨y0, y1, y2, y3⟩ := S3.out.d
    simp only [Nat.zero_add] at y1 y2 y3
    go_wp2
    go_ret
    exact ⟨rfl, S3.out.st.bel⟩
  have HT := hid ht
  by_cases he : to = wh
  · have he2 := he.symm
    clear he
    subst he2
    rw [Plain.refE_range M.out hk (fun h => (h.2.1 rfl).2 rfl)]
    clear ht hk hw
    go_enter Try.func30, Try.ntmps30
    go_wp2_with fail
    refine (may_g _ _ t _ S0.out.st.has).mono ?_
    rw [M.out]
    rintro e w1 ⟨rfl, q1, os1, h1⟩
    have S1 := hid (S0.out.step (w' := w1) (by rw [h1]; exact grow_below _ _ _))
    clear h1 S0
    have x0 := S1.out.st.x0
    have x1 := S1.out.st.x1
    obtain ⟨y0, y1, y2, y3⟩ := S1.out.d
    simp only [Nat.zero_add] at y1 y2 y3
    go_wp2_with fail
    refine (isBranch_g _ _ t wh _ S1.out.st.has).mono ?_
    rw [decide_eq_true HW.out]
    rintro e w2 ⟨rfl, q2, os2, h2⟩
    have S2 := hid (S1.out.step (w' := w2) (by rw [h2]; exact grow_below _ _ _))
    clear x0 x1 y0 y1 y2 y3
    clear h2 S1
    have x0 := S2.out.st.x0
    have x1 := S2.out.st.x1
    obtain ⟨y0, y1, y2, y3⟩ := S2.out.d
    simp only [Nat.zero_add] at y1 y2 y3
    go_wp2_with fail
    refine (isBranch_g _ _ t wh _ S2.out.st.has).mono ?_
    rw [decide_eq_true HT.out]
    rintro e w3 ⟨rfl, q3, os3, h3⟩
    have S3 := hid (S2.out.step (w' := w3) (by rw [h3]; exact grow_below _ _ _))
    clear x0 x1 y0 y1 y2 y3
    clear h3 S2
    have x0 := S3.out.st.x0
    have x1 := S3.out.st.x1
    obtain ⟨y0, y1, y2, y3⟩ := S3.out.d
    simp only [Nat.zero_add] at y1 y2 y3
    go_wp2
    go_ret
    exact ⟨rfl, S3.out.st.bel⟩
  have heb : (to == wh) = false := beq_eq_false_iff_ne.2 he
  by_cases hc0 : ct < 1
  · rw [Plain.refE_range M.out hk (fun h => by have := h.2.2.1; simp only [] at this; omega)]
    clear ht he hk hw
    go_enter Try.func30, Try.ntmps30
    go_wp2_with fail
    refine (may_g _ _ t _ S0.out.st.has).mono ?_
    rw [M.out]
    rintro e w1 ⟨rfl, q1, os1, h1⟩
    have S1 := hid (S0.out.step (w' := w1) (by rw [h1]; exact grow_below _ _ _))
    clear h1 S0
    have x0 := S1.out.st.x0
    have x1 := S1.out.st.x1
    obtain ⟨y0, y1, y2, y3⟩ := S1.out.d
    simp only [Nat.zero_add] at y1 y2 y3
    go_wp2_with fail
    refine (isBranch_g _ _ t wh _ S1.out.st.has).mono ?_
    rw [decide_eq_true HW.out]
    rintro e w2 ⟨rfl, q2, os2, h2⟩
    have S2 := hid (S1.out.step (w' := w2) (by rw [h2]; exact grow_below _ _ _))
    clear x0 x1 y0 y1 y2 y3
    clear h2 S1
    have x0 := S2.out.st.x0
    have x1 := S2.out.st.x1
    obtain ⟨y0, y1, y2, y3⟩ := S2.out.d
    simp only [Nat.zero_add] at y1 y2 y3
    go_wp2_with fail
    refine (isBranch_g _ _ t to _ S2.out.st.has).mono ?_
    rw [decide_eq_true HT.out]
    rintro e w3 ⟨rfl, q3, os3, h3⟩
    have S3 := hid (S2.out.step (w' := w3) (by rw [h3]; exact grow_below _ _ _))
    clear x0 x1 y0 y1 y2 y3
    clear h3 S2
    have x0 := S3.out.st.x0
    have x1 := S3.out.st.x1
    obtain ⟨y0, y1, y2, y3⟩ := S3.out.d
    simp only [Nat.zero_add] at y1 y2 y3
    go_wp2
    go_ret
    exact ⟨rfl, S3.out.st.bel⟩
  by_cases hc1 : 1048576 < ct
  · rw [Plain.refE_range M.out hk (fun h => by have := h.2.2.2; simp only [] at this; omega)]
    clear ht he hk hw
    go_enter Try.func30, Try.ntmps30
    go_wp2_with fail
    refine (may_g _ _ t _ S0.out.st.has).mono ?_
    rw [M.out]
    rintro e w1 ⟨rfl, q1, os1, h1⟩
    have S1 := hid (S0.out.step (w' := w1) (by rw [h1]; exact grow_below _ _ _))
    clear h1 S0
    have x0 := S1.out.st.x0
    have x1 := S1.out.st.x1
    obtain ⟨y0, y1, y2, y3⟩ := S1.out.d
    simp only [Nat.zero_add] at y1 y2 y3
    go_wp2_with fail
    refine (isBranch_g _ _ t wh _ S1.out.st.has).mono ?_
    rw [decide_eq_true HW.out]
    rintro e w2 ⟨rfl, q2, os2, h2⟩
    have S2 := hid (S1.out.step (w' := w2) (by rw [h2]; exact grow_below _ _ _))
    clear x0 x1 y0 y1 y2 y3
    clear h2 S1
    have x0 := S2.out.st.x0
    have x1 := S2.out.st.x1
    obtain ⟨y0, y1, y2, y3⟩ := S2.out.d
    simp only [Nat.zero_add] at y1 y2 y3
    go_wp2_with fail
    refine (isBranch_g _ _ t to _ S2.out.st.has).mono ?_
    rw [decide_eq_true HT.out]
    rintro e w3 ⟨rfl, q3, os3, h3⟩
    have S3 := hid (S2.out.step (w' := w3) (by rw [h3]; exact grow_below _ _ _))
    clear x0 x1 y0 y1 y2 y3
    clear h3 S2
    have x0 := S3.out.st.x0
    have x1 := S3.out.st.x1
    obtain ⟨y0, y1, y2, y3⟩ := S3.out.d
    simp only [Nat.zero_add] at y1 y2 y3
    go_wp2
    go_ret
    exact ⟨rfl, S3.out.st.bel⟩
  have hr : (0 ≤ (⟨2, wh, to, ct⟩ : Plain.De).who ∧ (⟨2, wh, to, ct⟩ : Plain.De).who < t.used.length) ∧ ((⟨2, wh, to, ct⟩ : Plain.De).kind = 2 → (0 ≤ (⟨2, wh, to, ct⟩ : Plain.De).to ∧ (⟨2, wh, to, ct⟩ : Plain.De).to < t.used.length) ∧ (⟨2, wh, to, ct⟩ : Plain.De).to ≠ (⟨2, wh, to, ct⟩ : Plain.De).who) ∧ 1 ≤ (⟨2, wh, to, ct⟩ : Plain.De).count ∧ (⟨2, wh, to, ct⟩ : Plain.De).count ≤ 1048576 := ⟨hw, fun _ => ⟨ht, he⟩, by simp only []; omega, by simp only []; omega⟩
  by_cases hl : Plain.leftT t wh.toNat < ct
  · rw [Plain.refE_less M.out hk hr ⟨by simp, hl⟩]
    clear hr hk hw ht he 
    go_enter Try.func30, Try.ntmps30
    go_wp2_with fail
    refine (may_g _ _ t _ S0.out.st.has).mono ?_
    rw [M.out]
    rintro e w1 ⟨rfl, q1, os1, h1⟩
    have S1 := hid (S0.out.step (w' := w1) (by rw [h1]; exact grow_below _ _ _))
    clear h1 S0
    have x0 := S1.out.st.x0
    have x1 := S1.out.st.x1
    obtain ⟨y0, y1, y2, y3⟩ := S1.out.d
    simp only [Nat.zero_add] at y1 y2 y3
    go_wp2_with fail
    refine (isBranch_g _ _ t wh _ S1.out.st.has).mono ?_
    rw [decide_eq_true HW.out]
    rintro e w2 ⟨rfl, q2, os2, h2⟩
    have S2 := hid (S1.out.step (w' := w2) (by rw [h2]; exact grow_below _ _ _))
    clear x0 x1 y0 y1 y2 y3
    clear h2 S1
    have x0 := S2.out.st.x0
    have x1 := S2.out.st.x1
    obtain ⟨y0, y1, y2, y3⟩ := S2.out.d
    simp only [Nat.zero_add] at y1 y2 y3
    go_wp2_with fail
    refine (isBranch_g _ _ t to _ S2.out.st.has).mono ?_
    rw [decide_eq_true HT.out]
    rintro e w3 ⟨rfl, q3, os3, h3⟩
    have S3 := hid (S2.out.step (w' := w3) (by rw [h3]; exact grow_below _ _ _))
    clear x0 x1 y0 y1 y2 y3
    clear h3 S2
    have x0 := S3.out.st.x0
    have x1 := S3.out.st.x1
    obtain ⟨y0, y1, y2, y3⟩ := S3.out.d
    simp only [Nat.zero_add] at y1 y2 y3
    have KL := fun n os => left_g vm vu t _ (Plain.mayT_iff.1 M.out) wh HW.out.1 HW.out.2 (Sort.grow (w3.drewN n) os) (S3.out.st.has.grown n os)
    generalize Plain.leftT t wh.toNat = z at *
    have b0 : decide (z < ct) = true := by simp only [decide_eq_true_eq]; omega
    have z0 := fun n os => cell_grown (a := ⟨w.heap.size, 0, none⟩) S3.out.st.lt x0 n os
    have z1 := fun n os => cell_grown (a := ⟨w.heap.size, 1, none⟩) S3.out.st.lt x1 n os
    have z2 := fun n os => cell_grown (a := ⟨w.heap.size + 1, 0, none⟩) S3.out.lt y0 n os
    have z3 := fun n os => cell_grown (a := ⟨w.heap.size + 1, 1, none⟩) S3.out.lt y1 n os
    have z4 := fun n os => cell_grown (a := ⟨w.heap.size + 1, 3, none⟩) S3.out.lt y3 n os
    have mixed : Try.prog.follows .mixedOrders = true := by kernel_rfl
    go_wp2
    go_quiet_grown ((go_at_call 24; exact Calls.grown_of (KL _ _)))
    have S9 := hid (S3.out.step (grow_below w3 nq osq))
    clear z0 z1 z2 z3 z4 KL x0 x1 y0 y1 y2 y3
    go_wp2
    go_ret
    exact ⟨rfl, S9.out.st.bel⟩
  · rw [Plain.refE_zero M.out hk hr (fun h => hl h.2)]
    clear hr hk hw ht he 
    go_enter Try.func30, Try.ntmps30
    go_wp2_with fail
    refine (may_g _ _ t _ S0.out.st.has).mono ?_
    rw [M.out]
    rintro e w1 ⟨rfl, q1, os1, h1⟩
    have S1 := hid (S0.out.step (w' := w1) (by rw [h1]; exact grow_below _ _ _))
    clear h1 S0
    have x0 := S1.out.st.x0
    have x1 := S1.out.st.x1
    obtain ⟨y0, y1, y2, y3⟩ := S1.out.d
    simp only [Nat.zero_add] at y1 y2 y3
    go_wp2_with fail
    refine (isBranch_g _ _ t wh _ S1.out.st.has).mono ?_
    rw [decide_eq_true HW.out]
    rintro e w2 ⟨rfl, q2, os2, h2⟩
    have S2 := hid (S1.out.step (w' := w2) (by rw [h2]; exact grow_below _ _ _))
    clear x0 x1 y0 y1 y2 y3
    clear h2 S1
    have x0 := S2.out.st.x0
    have x1 := S2.out.st.x1
    obtain ⟨y0, y1, y2, y3⟩ := S2.out.d
    simp only [Nat.zero_add] at y1 y2 y3
    go_wp2_with fail
    refine (isBranch_g _ _ t to _ S2.out.st.has).mono ?_
    rw [decide_eq_true HT.out]
    rintro e w3 ⟨rfl, q3, os3, h3⟩
    have S3 := hid (S2.out.step (w' := w3) (by rw [h3]; exact grow_below _ _ _))
    clear x0 x1 y0 y1 y2 y3
    clear h3 S2
    have x0 := S3.out.st.x0
    have x1 := S3.out.st.x1
    obtain ⟨y0, y1, y2, y3⟩ := S3.out.d
    simp only [Nat.zero_add] at y1 y2 y3
    have KL := fun n os => left_g vm vu t _ (Plain.mayT_iff.1 M.out) wh HW.out.1 HW.out.2 (Sort.grow (w3.drewN n) os) (S3.out.st.has.grown n os)
    generalize Plain.leftT t wh.toNat = z at *
    have b0 : decide (z < ct) = false := by simp only [decide_eq_false_iff_not]; omega
    have z0 := fun n os => cell_grown (a := ⟨w.heap.size, 0, none⟩) S3.out.st.lt x0 n os
    have z1 := fun n os => cell_grown (a := ⟨w.heap.size, 1, none⟩) S3.out.st.lt x1 n os
    have z2 := fun n os => cell_grown (a := ⟨w.heap.size + 1, 0, none⟩) S3.out.lt y0 n os
    have z3 := fun n os => cell_grown (a := ⟨w.heap.size + 1, 1, none⟩) S3.out.lt y1 n os
    have z4 := fun n os => cell_grown (a := ⟨w.heap.size + 1, 3, none⟩) S3.out.lt y3 n os
    have mixed : Try.prog.follows .mixedOrders = true := by kernel_rfl
    go_wp2
    go_quiet_grown ((go_at_call 24; exact Calls.grown_of (KL _ _)))
    have S9 := hid (S3.out.step (grow_below w3 nq osq))
    clear z0 z1 z2 z3 z4 KL x0 x1 y0 y1 y2 y3
    go_wp2
    go_ret
    exact ⟨rfl, S9.out.st.bel⟩

set_option maxHeartbeats 2000000 in
theorem refuse_3 (vm vu : Value) (t : Plain.Ta) (wh to ct : Int) (w : World) (h : HasT w vm vu t) (M : Hid (Plain.mayT t = true)) :
    Calls Try.prog 30 #[aggT vm vu, aggD ⟨3, wh, to, ct⟩] w fun e w' => e = .returned (.int .i64 (Plain.refE t ⟨3, wh, to, ct⟩ : Nat)) ∧ Below w.heap.size w w' := by
  have S0 := hid (SD.start h ⟨3, wh, to, ct⟩)
  have hk : (⟨3, wh, to, ct⟩ : Plain.De).kind = 1 ∨ (⟨3, wh, to, ct⟩ : Plain.De).kind = 2 ∨ (⟨3, wh, to, ct⟩ : Plain.De).kind = 3 := .inr (.inr rfl)
  clear h
  by_cases hw : 0 ≤ wh ∧ wh < t.used.length
  case neg =>
    rw [Plain.refE_range M.out hk (fun h => hw h.1)]
    have HW := hid hw
    clear hw hk
    go_enter Try.func30, Try.ntmps30
    go_wp2_with fail
    refine (may_g _ _ t _ S0.out.st.has).mono ?_
    rw [M.out]
    rintro e w1 ⟨rfl, q1, os1, h1⟩
    have S1 := hid (S0.out.step (w' := w1) (by rw [h1]; exact grow_below _ _ _))
    clear h1 S0
    have x0 := S1.out.st.x0
    have x1 := S1.out.st.x1
    obtain ⟨y0, y1, y2, y3⟩ := S1.out.d
    simp only [Nat.zero_add] at y1 y2 y3
    go_wp2_with fail
    refine (isBranch_g _ _ t wh _ S1.out.st.has).mono ?_
    rw [decide_eq_false HW.out]
    rintro e w2 ⟨rfl, q2, os2, h2⟩
    have S2 := hid (S1.out.step (w' := w2) (by rw [h2]; exact grow_below _ _ _))
    clear x0 x1 y0 y1 y2 y3
    clear h2 S1
    have x0 := S2.out.st.x0
    have x1 := S2.out.st.x1
    obtain ⟨y0, y1, y2, y3⟩ := S2.out.d
    simp only [Nat.zero_add] at y1 y2 y3
    go_wp2
    go_ret
    exact ⟨rfl, S2.out.st.bel⟩
  have HW := hid hw
  by_cases hc0 : ct < 1
  · rw [Plain.refE_range M.out hk (fun h => by have := h.2.2.1; simp only [] at this; omega)]
    clear hk hw
    go_enter Try.func30, Try.ntmps30
    go_wp2_with fail
    refine (may_g _ _ t _ S0.out.st.has).mono ?_
    rw [M.out]
    rintro e w1 ⟨rfl, q1, os1, h1⟩
    have S1 := hid (S0.out.step (w' := w1) (by rw [h1]; exact grow_below _ _ _))
    clear h1 S0
    have x0 := S1.out.st.x0
    have x1 := S1.out.st.x1
    obtain ⟨y0, y1, y2, y3⟩ := S1.out.d
    simp only [Nat.zero_add] at y1 y2 y3
    go_wp2_with fail
    refine (isBranch_g _ _ t wh _ S1.out.st.has).mono ?_
    rw [decide_eq_true HW.out]
    rintro e w2 ⟨rfl, q2, os2, h2⟩
    have S2 := hid (S1.out.step (w' := w2) (by rw [h2]; exact grow_below _ _ _))
    clear x0 x1 y0 y1 y2 y3
    clear h2 S1
    have x0 := S2.out.st.x0
    have x1 := S2.out.st.x1
    obtain ⟨y0, y1, y2, y3⟩ := S2.out.d
    simp only [Nat.zero_add] at y1 y2 y3
    go_wp2
    go_ret
    exact ⟨rfl, S2.out.st.bel⟩
  by_cases hc1 : 1048576 < ct
  · rw [Plain.refE_range M.out hk (fun h => by have := h.2.2.2; simp only [] at this; omega)]
    clear hk hw
    go_enter Try.func30, Try.ntmps30
    go_wp2_with fail
    refine (may_g _ _ t _ S0.out.st.has).mono ?_
    rw [M.out]
    rintro e w1 ⟨rfl, q1, os1, h1⟩
    have S1 := hid (S0.out.step (w' := w1) (by rw [h1]; exact grow_below _ _ _))
    clear h1 S0
    have x0 := S1.out.st.x0
    have x1 := S1.out.st.x1
    obtain ⟨y0, y1, y2, y3⟩ := S1.out.d
    simp only [Nat.zero_add] at y1 y2 y3
    go_wp2_with fail
    refine (isBranch_g _ _ t wh _ S1.out.st.has).mono ?_
    rw [decide_eq_true HW.out]
    rintro e w2 ⟨rfl, q2, os2, h2⟩
    have S2 := hid (S1.out.step (w' := w2) (by rw [h2]; exact grow_below _ _ _))
    clear x0 x1 y0 y1 y2 y3
    clear h2 S1
    have x0 := S2.out.st.x0
    have x1 := S2.out.st.x1
    obtain ⟨y0, y1, y2, y3⟩ := S2.out.d
    simp only [Nat.zero_add] at y1 y2 y3
    go_wp2
    go_ret
    exact ⟨rfl, S2.out.st.bel⟩
  have hr : (0 ≤ (⟨3, wh, to, ct⟩ : Plain.De).who ∧ (⟨3, wh, to, ct⟩ : Plain.De).who < t.used.length) ∧ ((⟨3, wh, to, ct⟩ : Plain.De).kind = 2 → (0 ≤ (⟨3, wh, to, ct⟩ : Plain.De).to ∧ (⟨3, wh, to, ct⟩ : Plain.De).to < t.used.length) ∧ (⟨3, wh, to, ct⟩ : Plain.De).to ≠ (⟨3, wh, to, ct⟩ : Plain.De).who) ∧ 1 ≤ (⟨3, wh, to, ct⟩ : Plain.De).count ∧ (⟨3, wh, to, ct⟩ : Plain.De).count ≤ 1048576 := ⟨hw, fun h => by simp at h, by simp only []; omega, by simp only []; omega⟩
  by_cases hl : Plain.leftT t wh.toNat < ct
  · rw [Plain.refE_less M.out hk hr ⟨by simp, hl⟩]
    clear hr hk hw 
    go_enter Try.func30, Try.ntmps30
    go_wp2_with fail
    refine (may_g _ _ t _ S0.out.st.has).mono ?_
    rw [M.out]
    rintro e w1 ⟨rfl, q1, os1, h1⟩
    have S1 := hid (S0.out.step (w' := w1) (by rw [h1]; exact grow_below _ _ _))
    clear h1 S0
    have x0 := S1.out.st.x0
    have x1 := S1.out.st.x1
    obtain ⟨y0, y1, y2, y3⟩ := S1.out.d
    simp only [Nat.zero_add] at y1 y2 y3
    go_wp2_with fail
    refine (isBranch_g _ _ t wh _ S1.out.st.has).mono ?_
    rw [decide_eq_true HW.out]
    rintro e w2 ⟨rfl, q2, os2, h2⟩
    have S2 := hid (S1.out.step (w' := w2) (by rw [h2]; exact grow_below _ _ _))
    clear x0 x1 y0 y1 y2 y3
    clear h2 S1
    have x0 := S2.out.st.x0
    have x1 := S2.out.st.x1
    obtain ⟨y0, y1, y2, y3⟩ := S2.out.d
    simp only [Nat.zero_add] at y1 y2 y3
    have KL := fun n os => left_g vm vu t _ (Plain.mayT_iff.1 M.out) wh HW.out.1 HW.out.2 (Sort.grow (w2.drewN n) os) (S2.out.st.has.grown n os)
    generalize Plain.leftT t wh.toNat = z at *
    have b0 : decide (z < ct) = true := by simp only [decide_eq_true_eq]; omega
    have z0 := fun n os => cell_grown (a := ⟨w.heap.size, 0, none⟩) S2.out.st.lt x0 n os
    have z1 := fun n os => cell_grown (a := ⟨w.heap.size, 1, none⟩) S2.out.st.lt x1 n os
    have z2 := fun n os => cell_grown (a := ⟨w.heap.size + 1, 0, none⟩) S2.out.lt y0 n os
    have z3 := fun n os => cell_grown (a := ⟨w.heap.size + 1, 1, none⟩) S2.out.lt y1 n os
    have z4 := fun n os => cell_grown (a := ⟨w.heap.size + 1, 3, none⟩) S2.out.lt y3 n os
    have mixed : Try.prog.follows .mixedOrders = true := by kernel_rfl
    go_wp2
    go_quiet_grown ((go_at_call 24; exact Calls.grown_of (KL _ _)))
    have S9 := hid (S2.out.step (grow_below w2 nq osq))
    clear z0 z1 z2 z3 z4 KL x0 x1 y0 y1 y2 y3
    go_wp2
    go_ret
    exact ⟨rfl, S9.out.st.bel⟩
  · rw [Plain.refE_zero M.out hk hr (fun h => hl h.2)]
    clear hr hk hw 
    go_enter Try.func30, Try.ntmps30
    go_wp2_with fail
    refine (may_g _ _ t _ S0.out.st.has).mono ?_
    rw [M.out]
    rintro e w1 ⟨rfl, q1, os1, h1⟩
    have S1 := hid (S0.out.step (w' := w1) (by rw [h1]; exact grow_below _ _ _))
    clear h1 S0
    have x0 := S1.out.st.x0
    have x1 := S1.out.st.x1
    obtain ⟨y0, y1, y2, y3⟩ := S1.out.d
    simp only [Nat.zero_add] at y1 y2 y3
    go_wp2_with fail
    refine (isBranch_g _ _ t wh _ S1.out.st.has).mono ?_
    rw [decide_eq_true HW.out]
    rintro e w2 ⟨rfl, q2, os2, h2⟩
    have S2 := hid (S1.out.step (w' := w2) (by rw [h2]; exact grow_below _ _ _))
    clear x0 x1 y0 y1 y2 y3
    clear h2 S1
    have x0 := S2.out.st.x0
    have x1 := S2.out.st.x1
    obtain ⟨y0, y1, y2, y3⟩ := S2.out.d
    simp only [Nat.zero_add] at y1 y2 y3
    have KL := fun n os => left_g vm vu t _ (Plain.mayT_iff.1 M.out) wh HW.out.1 HW.out.2 (Sort.grow (w2.drewN n) os) (S2.out.st.has.grown n os)
    generalize Plain.leftT t wh.toNat = z at *
    have b0 : decide (z < ct) = false := by simp only [decide_eq_false_iff_not]; omega
    have z0 := fun n os => cell_grown (a := ⟨w.heap.size, 0, none⟩) S2.out.st.lt x0 n os
    have z1 := fun n os => cell_grown (a := ⟨w.heap.size, 1, none⟩) S2.out.st.lt x1 n os
    have z2 := fun n os => cell_grown (a := ⟨w.heap.size + 1, 0, none⟩) S2.out.lt y0 n os
    have z3 := fun n os => cell_grown (a := ⟨w.heap.size + 1, 1, none⟩) S2.out.lt y1 n os
    have z4 := fun n os => cell_grown (a := ⟨w.heap.size + 1, 3, none⟩) S2.out.lt y3 n os
    have mixed : Try.prog.follows .mixedOrders = true := by kernel_rfl
    go_wp2
    go_quiet_grown ((go_at_call 24; exact Calls.grown_of (KL _ _)))
    have S9 := hid (S2.out.step (grow_below w2 nq osq))
    clear z0 z1 z2 z3 z4 KL x0 x1 y0 y1 y2 y3
    go_wp2
    go_ret
    exact ⟨rfl, S9.out.st.bel⟩

set_option maxHeartbeats 1000000 in
theorem refuse_c (vm vu : Value) (t : Plain.Ta) (d : Plain.De) (w : World) (h : HasT w vm vu t) :
    Calls Try.prog 30 #[aggT vm vu, aggD d] w fun e w' => e = .returned (.int .i64 (Plain.refE t d : Nat)) ∧ Below w.heap.size w w' := by
  by_cases hm : Plain.mayT t = true
  · have M := hid hm
    by_cases hk : d.kind = 1 ∨ d.kind = 2 ∨ d.kind = 3
    · obtain ⟨k, wh, to, ct⟩ := d
      simp only [] at hk
      rcases hk with rfl | rfl | rfl
      · exact refuse_1 vm vu t wh to ct w h M
      · exact refuse_2 vm vu t wh to ct w h M
      · exact refuse_3 vm vu t wh to ct w h M
    · rw [Plain.refE_kind hm hk]
      have S0 := hid (SD.start h d)
      obtain ⟨k, wh, to, ct⟩ := d
      simp only [] at hk
      have k1 : (k != 1) = true := bne_iff_ne.2 (by omega)
      have k2 : (k != 2) = true := bne_iff_ne.2 (by omega)
      have k3 : (k != 3) = true := bne_iff_ne.2 (by omega)
      clear hk hm h
      go_enter Try.func30, Try.ntmps30
      go_wp2_with fail
      refine (may_g _ _ t _ S0.out.st.has).mono ?_
      rw [M.out]
      rintro e w1 ⟨rfl, q1, os1, h1⟩
      have S1 := hid (S0.out.step (w' := w1) (by rw [h1]; exact grow_below _ _ _))
      clear h1 S0
      have x0 := S1.out.st.x0
      have x1 := S1.out.st.x1
      obtain ⟨y0, y1, y2, y3⟩ := S1.out.d
      simp only [Nat.zero_add] at y1 y2 y3
      go_wp2
      go_ret
      exact ⟨rfl, S1.out.st.bel⟩
  · have M := hid (show Plain.mayT t = false by simpa using hm)
    rw [Plain.refE_form d M.out]
    have S0 := hid (SD.start h d)
    clear h hm
    go_enter Try.func30, Try.ntmps30
    go_wp2_with fail
    refine (may_g _ _ t _ S0.out.st.has).mono ?_
    rw [M.out]
    rintro e w1 ⟨rfl, q1, os1, h1⟩
    have S1 := hid (S0.out.step (w' := w1) (by rw [h1]; exact grow_below _ _ _))
    clear h1 S0
    go_wp2
    go_ret
    exact ⟨rfl, S1.out.st.bel⟩
end Go.Proofs.Ytcdlgpickjiikag
