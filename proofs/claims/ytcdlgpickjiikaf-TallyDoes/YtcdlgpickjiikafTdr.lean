/-
  The document's Do, whatever it is handed.
-/
import Derived.Test.YtcdlgpickjiikafTd1
import Derived.Test.YtcdlgpickjiikafTd2
import Derived.Test.YtcdlgpickjiikafTd3
namespace Go.Proofs.Ytcdlgpickjiikaf
open Go.RowKit Go.Sort

set_option maxHeartbeats 1000000 in
set_option maxRecDepth 100000 in
/-- The document's Do, whatever it is handed. -/
theorem rdo_any (vm vu : Value) (t : Plain.Ta) (d : Plain.De) (w : World) (h : HasT w vm vu t) :
    Calls Try.prog 21 #[aggT vm vu, aggD d] w fun e w' => ∃ x y, e = .returned (.tuple #[aggT x y, .int .i64 (Plain.doE t d : Nat)]) ∧ HasP (w.heap.size ≤ ·) w' x y (Plain.doV t d) ∧ Below w.heap.size w w' := by
  have ER : ∀ E, E ≠ 0 → Plain.refE t d = E → Plain.doE t d = E ∧ Plain.doV t d = ⟨[], []⟩ := fun E h0 he =>
    have e1 : Plain.doE t d = E := by unfold Plain.doE; rw [if_neg (by rw [he]; exact h0), he]
    ⟨e1, by unfold Plain.doV; rw [if_neg (by rw [e1]; exact h0)]⟩
  by_cases hm : Plain.mayT t = true
  · have M := hid hm
    by_cases hk : d.kind = 1 ∨ d.kind = 2 ∨ d.kind = 3
    · obtain ⟨k, wh, to, ct⟩ := d
      simp only [] at hk
      rcases hk with rfl | rfl | rfl
      · exact rdo_1 vm vu t wh to ct w h M
      · exact rdo_2 vm vu t wh to ct w h M
      · exact rdo_3 vm vu t wh to ct w h M
    · obtain ⟨e1, e2⟩ := ER 3 (by omega) (Plain.refE_kind hm hk)
      rw [e1, e2]
      have I0 := hid (DK.start h d)
      obtain ⟨k, wh, to, ct⟩ := d
      simp only [] at hk
      have k1 : (k != 1) = true := bne_iff_ne.2 (by omega)
      have k2 : (k != 2) = true := bne_iff_ne.2 (by omega)
      have k3 : (k != 3) = true := bne_iff_ne.2 (by omega)
      clear hk hm h e1 e2 ER
      go_enter Try.func21, Try.ntmps21
      go_wp2_with fail
      refine (rmay_g _ _ t _ I0.out.di.sd.st.has).mono ?_
      rw [M.out]
      rintro e w1 ⟨rfl, q1, os1, h1⟩
      have I1 := hid (I0.out.step (w' := w1) (by rw [h1]; exact grow_below _ _ _))
      clear h1 I0
      have x0 := I1.out.di.sd.st.x0
      have x1 := I1.out.di.sd.st.x1
      obtain ⟨y0, y1, y2, y3⟩ := I1.out.di.sd.d
      simp only [Nat.zero_add] at y1 y2 y3
      have n0 := I1.out.nn.c0
      have n1 := I1.out.nn.c1
      have d0 := I1.out.di.res.c0
      have d1 := I1.out.di.res.c1
      have d2 := I1.out.di.res.frozen 0
      have d3 := I1.out.di.res.frozen 1
      have d4 := I1.out.di.res.lt
      go_wp2
      (try simp only [Exit.inBlock, Exit.then])
      refine bodyPost_ret (v := .tuple #[aggT (.slice none 0 0) (.slice none 0 0), .int .i64 3]) ?_ rfl ⟨_, _, rfl, HasP.nil _ _, below_res I1.out.di.sd.st.bel I1.out.di.r0⟩
      exact results_tally2 (p := 4) (u := 5) rfl _ _ (w.heap.size + 1 + 1) _ _ rfl (I1.out.di.res.set _ _)
  · have M := hid (show Plain.mayT t = false by simpa using hm)
    obtain ⟨e1, e2⟩ := ER 4 (by omega) (Plain.refE_form d M.out)
    rw [e1, e2]
    have I0 := hid (DK.start h d)
    clear h hm e1 e2 ER
    go_enter Try.func21, Try.ntmps21
    go_wp2_with fail
    refine (rmay_g _ _ t _ I0.out.di.sd.st.has).mono ?_
    rw [M.out]
    rintro e w1 ⟨rfl, q1, os1, h1⟩
    have I1 := hid (I0.out.step (w' := w1) (by rw [h1]; exact grow_below _ _ _))
    clear h1 I0
    have x0 := I1.out.di.sd.st.x0
    have x1 := I1.out.di.sd.st.x1
    obtain ⟨y0, y1, y2, y3⟩ := I1.out.di.sd.d
    simp only [Nat.zero_add] at y1 y2 y3
    have n0 := I1.out.nn.c0
    have n1 := I1.out.nn.c1
    have d0 := I1.out.di.res.c0
    have d1 := I1.out.di.res.c1
    have d2 := I1.out.di.res.frozen 0
    have d3 := I1.out.di.res.frozen 1
    have d4 := I1.out.di.res.lt
    go_wp2
    (try simp only [Exit.inBlock, Exit.then])
    refine bodyPost_ret (v := .tuple #[aggT (.slice none 0 0) (.slice none 0 0), .int .i64 4]) ?_ rfl ⟨_, _, rfl, HasP.nil _ _, below_res I1.out.di.sd.st.bel I1.out.di.r0⟩
    exact results_tally2 (p := 4) (u := 5) rfl _ _ (w.heap.size + 1 + 1) _ _ rfl (I1.out.di.res.set _ _)
end Go.Proofs.Ytcdlgpickjiikaf
