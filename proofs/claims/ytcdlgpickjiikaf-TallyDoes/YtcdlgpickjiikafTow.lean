/-
  A contract of the document's copy of a tally.
-/
import Derived.Test.YtcdlgpickjiikafTbe
import Derived.Test.YtcdlgpickjiikafAp
namespace Go.Proofs.Ytcdlgpickjiikaf
open Go.RowKit Go.Sort

set_option maxHeartbeats 2000000 in
set_option maxRecDepth 100000 in
theorem own_c (vm vu : Value) (t : Plain.Ta) (n : Nat) (s : Plain.Sq n t) (w : World) (h : HasT w vm vu t) :
    Calls Try.prog 38 #[aggT vm vu] w fun e w' => ∃ b bu cb cu G C, e = .returned (aggT (.slice (some ⟨b, 0, none⟩) n cb) (.slice (some ⟨bu, 0, none⟩) n cu)) ∧ OwnT w' w.heap.size n b bu G C t ∧ Below w.heap.size w w' := by
  obtain ⟨ib, off, cap, ibu, iou, icu, IG, IO, IC, rfl, rfl, hc⟩ := h.open s
  obtain ⟨i0, hi, hz0, hz1, hz2⟩ := info_parts Try.infoInt
  have H := hid hc
  have S := hid s
  have n1 := s.n1
  have n8 := s.n8
  have U := hid s.u
  obtain ⟨W, hW⟩ : ∃ W, W = (w.alloc (boxT (.slice (some ⟨ib, off, none⟩) n cap) (.slice (some ⟨ibu, iou, none⟩) n icu))).alloc (.cells #[.slice none 0 0, .slice none 0 0] 41) := ⟨_, rfl⟩
  have sW : W.heap.size = w.heap.size + 1 + 1 := by rw [hW]; simp
  have gW : Below w.heap.size w W := by rw [hW]; exact ((Below.refl _ _).alloc (Nat.le_refl _) _).alloc (by simp) _
  have rX : Res W w.heap.size (.slice (some ⟨ib, off, none⟩) n cap) (.slice (some ⟨ibu, iou, none⟩) n icu) := by
    rw [hW]
    exact (show Res (w.alloc (boxT (.slice (some ⟨ib, off, none⟩) n cap) (.slice (some ⟨ibu, iou, none⟩) n icu))) w.heap.size _ _ from Deep.blk_alloc_new _ _).below ((Below.refl _ _).alloc (Nat.le_refl _) _) (by simp)
  have rR : Res W (w.heap.size + 1) (.slice none 0 0) (.slice none 0 0) := by
    rw [hW]
    have := Deep.blk_alloc_new (w.alloc (boxT (.slice (some ⟨ib, off, none⟩) n cap) (.slice (some ⟨ibu, iou, none⟩) n icu))) (.cells #[.slice none 0 0, .slice none 0 0] 41)
    simp only [World.size_alloc] at this
    exact this
  have hown : W.ownsRow W.heap.size 3 1 (.slice none 0 0) 0 [] := ⟨rfl, .inl ⟨rfl, rfl⟩⟩
  have HU := hid (fun j (hj : j < n) => (gW.cell (p := ⟨ibu, iou + j, none⟩) H.out.lu).trans (H.out.u j hj))
  obtain ⟨vu', w1, hrun, own1, gr1, _⟩ := run_append_own (P := Try.prog) W W.heap.size 39 0 3 i0 (.int .i64 0) 1 8 Try.underlying39 hi hz0 hz1 hz2 rfl (by decide) _ _ _ hown ⟨ibu, iou, none⟩ n icu (t.used.map (Value.int .i64)) (by rw [List.length_map, U.out]; omega) (int_cells U.out HU.out) (fun u hu => by obtain ⟨x, _, rfl⟩ := List.mem_map.1 hu; rfl) (by unfold maxLen; omega) (by omega) (Nat.le_refl _)
  rw [Nat.zero_add, List.nil_append] at own1
  obtain ⟨gu, cu, rfl⟩ := owns_some own1 n1
  have ru := RowI.of_owns (l := t.used) own1 U.out rfl
  have g1 : Below W.heap.size W w1 := ⟨gr1.os, gr1.tape, gr1.output, gr1.size, fun k hk => gr1.block k hk (by simp [Value.ownBlock])⟩
  have hrun2 : ∀ ty, (Builtin.append_ #[39, 39] ty #[.slice none 0 0, .slice (some ⟨ibu, iou, none⟩) n icu]).run Try.prog W = .ok (.slice (some ⟨gu, 0, none⟩) n cu) w1 := fun ty => hrun
  have B0 := hid (show ∀ G C, BI [(w.heap.size, .slice (some ⟨ib, off, none⟩) n cap, .slice (some ⟨ibu, iou, none⟩) n icu)] w (w1.alloc (boxT (.slice none 0 0) (.slice (some ⟨gu, 0, none⟩) n cu))) n 0 w1.heap.size (w.heap.size + 1) gu cu (.slice none 0 0) G C (fun i => Plain.rw t i) t.used from fun G C => by
    have g2 : Below w1.heap.size w1 (w1.alloc (boxT (.slice none 0 0) (.slice (some ⟨gu, 0, none⟩) n cu))) := (Below.refl _ _).alloc (Nat.le_refl _) _
    have l1 := (rX.below g1 rX.lt).lt
    have l2 := (rR.below g1 rR.lt).lt
    refine ⟨fun e he => ?_, (gW.trans (g1.mono gW.size)).trans (g2.mono (Nat.le_trans gW.size g1.size)), ⟨rfl, .inl ⟨rfl, rfl⟩⟩, Deep.blk_alloc_new _ _, (rR.below g1 rR.lt).below g2 l2, ru.1.below g2 ru.1.lt, by have := ru.2; omega, by omega, by omega, by omega, fun i hi => absurd hi (Nat.not_lt_zero _), fun i hi => absurd hi (Nat.not_lt_zero _), fun i j _ hj => absurd hj (Nat.not_lt_zero _)⟩
    simp only [List.mem_singleton] at he
    subst he
    exact ⟨(rX.below g1 rX.lt).below g2 l1, by show w.heap.size ≠ w1.heap.size; omega⟩)
  rw [hW] at hrun2
  have NE := hid (show gu ≥ w.heap.size + 1 + 1 by have := ru.2; omega)
  clear hc s h hown hrun own1 gr1 ru g1 gW rX rR sW hW
  have x0 := ((B0.out (fun _ => 0) (fun _ => 0)).ex _ (List.mem_singleton.2 rfl)).1.c0
  have x1 := ((B0.out (fun _ => 0) (fun _ => 0)).ex _ (List.mem_singleton.2 rfl)).1.c1
  go_enter Try.func38, Try.ntmps38
  go_wp2_with (first | (at_builtin; refine wpList_app _ _ 39 (hrun2 _) (by rfl) (by rfl) (by rfl) (by rfl) (by rfl) ?_) | go_in)
  clear x0 x1 hrun2
  go_loopw [12] (fun i wr => ∃ k : Nat, k ≤ n ∧ i = .int .i64 k ∧ ∃ v G C, BI [(w.heap.size, .slice (some ⟨ib, off, none⟩) n cap, .slice (some ⟨ibu, iou, none⟩) n icu)] w wr n k w1.heap.size (w.heap.size + 1) gu cu v G C (fun i => Plain.rw t i) t.used) (fun i _ => n - (intOf i).toNat)
  case atStart => exact ⟨0, Nat.zero_le _, rfl, _, _, _, B0.out (fun _ => 0) (fun _ => 0)⟩
  case round =>
    obtain ⟨k, hk, rfl, v, G, C, hb⟩ := hrel
    have B := hid hb
    clear hb B0
    by_cases hlt : k < n
    · have hlt' : (k : Int) < (n : Int) := by omega
      have cc := H.out.grow B.out.bel
      have c1 := cc.c k hlt
      have RL := hid (S.out.r k hlt)
      have HR := hid (fun j (hj : j < n) => show wr.drew.cell? ⟨IG k, IO k + j, none⟩ = some (.int .i64 ((Plain.rw t k).getD j 0)) from cc.m k j hlt hj)
      have hownR : wr.drew.ownsRow wr.heap.size 3 1 (.slice none 0 0) 0 [] := ⟨rfl, .inl ⟨rfl, rfl⟩⟩
      obtain ⟨vr, w2, hrunA, ownA, grA, _⟩ := run_append_own (P := Try.prog) wr.drew wr.heap.size 39 0 3 i0 (.int .i64 0) 1 8 Try.underlying39 hi hz0 hz1 hz2 rfl (by decide) _ _ _ hownR ⟨IG k, IO k, none⟩ n (IC k) ((Plain.rw t k).map (Value.int .i64)) (by rw [List.length_map, RL.out]; omega) (int_cells RL.out HR.out) (fun u hu => by obtain ⟨x, _, rfl⟩ := List.mem_map.1 hu; rfl) (by unfold maxLen; omega) (by omega) (Nat.le_refl _)
      rw [Nat.zero_add, List.nil_append] at ownA
      obtain ⟨g, c, rfl⟩ := owns_some ownA n1
      have rg := RowI.of_owns (l := Plain.rw t k) ownA RL.out rfl
      have gA : Below wr.heap.size wr w2 := ⟨grA.os, grA.tape, grA.output, grA.size, fun k hk => grA.block k hk (by simp [Value.ownBlock])⟩
      have hrunA2 : ∀ ty, (Builtin.append_ #[39, 39] ty #[.slice none 0 0, .slice (some ⟨IG k, IO k, none⟩) n (IC k)]).run Try.prog wr.drew = .ok (.slice (some ⟨g, 0, none⟩) n c) w2 := fun ty => hrunA
      obtain ⟨v', w3, ⟨p', c', rfl⟩, hrunB, bx, nx⟩ := B.out.step (w1 := w2) (g := g) (c := c) (by omega) gA rg.1 rg.2
      have NX := hid nx
      have x0 := B.out.box.c0
      have x1 := B.out.box.lt
      have y0 := (B.out.ex _ (List.mem_singleton.2 rfl)).1.c0
      have x2 := (gA.cell (p := ⟨w1.heap.size, 0, none⟩) x1).trans x0
      have x3 : w1.heap.size < w2.heap.size := Nat.lt_of_lt_of_le x1 gA.size
      have x4 : w1.heap.size < w2.heap.size + 1 := by omega
      have d0 := bx.c0
      have d1 := bx.frozen 0
      have d2 := bx.lt
      clear bx nx hrunA ownA grA gA rg hownR cc
      go_wp2
      go_region_law (first
        | (refine step_appK rfl _ _ 39 rfl (.slice none 0 0) (.slice (some ⟨IG k, IO k, none⟩) n (IC k)) (by simp [Act.eval]) (by simp [Act.eval]) (hrunA2 _) ?_)
        | (refine step_appK rfl _ _ 38 rfl v (.slice (some ⟨w2.heap.size, 0, none⟩) 1 1) (by simp [Act.eval]) (by simp [Act.eval]) (hrunB _) ?_))
      all_goals
        clear hrunA2 hrunB
        go_wp2
        go_roundw
        case rel => exact ⟨k + 1, by omega, by go_num, _, _, _, NX.out⟩
        case measure => simp [intOf]; omega
    · have ek : k = n := by omega
      have hnlt : ¬ (k : Int) < (n : Int) := by omega
      subst ek
      obtain ⟨b, cb, rfl, hown, hb1, hb2⟩ := B.out.whole n1 n8 t S.out.m (fun i _ => rfl) (fun i hi => S.out.r i hi) rfl S.out.u
      have OW := hid hown
      have NB := hid (And.intro hb1 hb2)
      clear hown hb1 hb2
      have x0 := B.out.box.c0
      have x1 := B.out.box.c1
      have d0 := B.out.res.c0
      have d1 := B.out.res.c1
      have d2 := B.out.res.frozen 0
      have d3 := B.out.res.frozen 1
      have d4 := B.out.res.lt
      have NG := hid (show w.heap.size + 1 ≠ gu ∧ ∀ i, i < k → w.heap.size + 1 ≠ G i from ⟨by have := NE.out; omega, fun i hi => by have := B.out.lo i hi; have := NE.out; omega⟩)
      go_wp2
      (try simp only [Exit.inBlock, Exit.then])
      refine bodyPost_ret (v := aggT (.slice (some ⟨b, 0, none⟩) k cb) (.slice (some ⟨gu, 0, none⟩) k cu)) ?_ rfl ⟨_, _, ⟨_, _, rfl⟩, ⟨_, _, OW.out.res _ _ NB.out.2 NG.out.1 NG.out.2⟩, below_res B.out.bel B.out.r0⟩
      exact results_tally rfl _ _ (w.heap.size + 1) _ _ rfl (B.out.res.set _ _)
end Go.Proofs.Ytcdlgpickjiikaf
