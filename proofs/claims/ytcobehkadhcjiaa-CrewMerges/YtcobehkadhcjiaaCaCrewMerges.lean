/-
  law.CrewMerges: MANY MERGES, PAIR BY PAIR, EACH PAIR BY A WORKER OF ITS OWN, COME TO WHAT ONE AFTER THE OTHER COMES TO: true at every argument, on every schedule.
-/
import Derived.Test.YtcobehkadhcjiaaCa29
namespace Go.Proofs.Ytcobehkadhcjiaa
namespace crewMerges
open Go Go.Conc Go.ChangeShapes Go.WideShapes Go.ChangeAt Go.RowKit
set_option linter.unusedVariables false

theorem own : ownKnob Try.prog.godebug = none := by kernel_rfl
theorem laidOut : laidOutB Try.prog = true := by kernel_rfl

set_option maxRecDepth 100000 in
theorem fields : FieldsN (match Try.prog.underlying 41 with | some (.struct fs) => fs | _ => #[]) := by
  rw [Try.underlying41]
  refine ⟨rfl, ?_⟩
  intro j f hj
  rcases j with _ | _ | _ | _ | _ | j <;> simp at hj <;> subst hj <;> first | exact ⟨rfl, by kernel_rfl, Try.underlying3⟩ | exact ⟨rfl, by kernel_rfl, Try.underlying4⟩

theorem body4_some : Try.f4.body = some body4 := rfl

/-- At lists that came in. -/
theorem run_some (W : World) (bo oo n cap : Nat) (F : Nat → Ind) (hb : ∃ cs e f, W.heap[bo]? = some (.cells cs e f)) (hF : ∀ j, j < n → W.cell? ⟨bo, oo + j, none⟩ = some (F j).y ∧ Kd W (F j)) (hc : n ≤ cap) (hm : cap ≤ maxLen) :
    ∃ M last o w' t', runNT Try.prog (M + 1) (solo (G (Frame.enter Try.prog 4 #[.slice (some ⟨bo, oo, none⟩) n cap] .normal) []) W) #[] = (.ended o w', t') ∧ runN Try.prog M (solo (G (Frame.enter Try.prog 4 #[.slice (some ⟨bo, oo, none⟩) n cap] .normal) []) W) = .next last ∧
      step Try.prog last = .ended o w' ∧ Conc.Good Try.prog (LawQ W) last o w' t' := by
  letI := shiftOf (n + 1) (shO oo F)
  have hP : OkP Try.prog S0 V0 := okP (n + 1) (shO oo F)
  have hr := left_hr0 S0 hb hF
  have hL : LsO (leftW W bo n F) (.slice (some ⟨0, 0, none⟩) n cap) ((List.range n).map fun j => (F j).l) := left_ls (fun j hj => (hF j hj).2) hc
  have hx : RR S0 (rO bo n F) #[.slice (some ⟨0, 0, none⟩) n cap] #[.slice (some ⟨bo, oo, none⟩) n cap] := RR.nil.push (.slice n cap ⟨.inl ⟨rfl, rfl⟩, by
    show oo = 0 + shf 0
    have : shf 0 = oo := if_pos (show 0 < n + 1 by omega)
    rw [this]; omega, rfl⟩)
  refine run_of_tree hP Try.func4 body4_some hx hr (left_size W bo n F) ?_
  rw [Try.ntmps4]
  obtain ⟨z0, g0⟩ := frame1 (.slice (some ⟨0, 0, none⟩) n cap) 25 (by omega)
  refine law_mi hP _ _ _ _ (fun j => ?_) ?_ z0 g0 hL fun _ => rfl
  · by_cases hj : j < n
    · rw [List.getD_eq_getElem?_getD, List.getElem?_map, List.getElem?_range hj]
      exact (hF j hj).2.1
    · rw [List.getD_eq_getElem?_getD, List.getElem?_eq_none (by simp; omega)]
      exact Nat.zero_le _
  · simp only [List.length_map, List.length_range]
    unfold maxLen at hm
    omega
/-- At the nil slice. -/
theorem run_none (W : World) :
    ∃ M last o w' t', runNT Try.prog (M + 1) (solo (G (Frame.enter Try.prog 4 #[.slice none 0 0] .normal) []) W) #[] = (.ended o w', t') ∧ runN Try.prog M (solo (G (Frame.enter Try.prog 4 #[.slice none 0 0] .normal) []) W) = .next last ∧
      step Try.prog last = .ended o w' ∧ Conc.Good Try.prog (LawQ W) last o w' t' := by
  letI := shiftOf 0 (fun _ => 0)
  have hP : OkP Try.prog S0 V0 := okP 0 (fun _ => 0)
  have hr : HR0 S0 (fun _ _ => False) { W with heap := #[] } W := ⟨fun h => h.elim, fun h => h.elim, fun h => h.elim, Nat.le_refl _⟩
  have hx : RR S0 (fun _ _ => False) #[.slice none 0 0] #[.slice none 0 0] := RR.nil.push (.nilSlice _ _)
  refine run_of_tree hP Try.func4 body4_some hx hr rfl ?_
  rw [Try.ntmps4]
  obtain ⟨z0, g0⟩ := frame1 (.slice none 0 0) 25 (by omega)
  exact law_mi hP _ _ _ [] (fun j => by simp) (by simp) z0 g0 (.inl ⟨rfl, _, _, rfl⟩) fun _ => rfl

set_option maxRecDepth 100000 in
theorem lifted (os : Os) (started : os.Started) (H : Type) (enc : TypeId × Value → H) :
    ReturnsInLeavingWide {} Try.checked os 4 .any (Rows.crewMergesSpec.pre6 enc Try.prog Try.f4 Rows.crewMergesRow.domain false) (Rows.crewMergesSpec.post enc Try.prog Try.f4 false true false false) := by
  refine returnsInLeavingWide_of_change_sized (C := Try.checked) own started Try.func4
    (ChangeSpec.witness6 (enc := enc) (C := Try.checked) false ⟨#[], #[.slice none 0 0], []⟩ 8 (by kernel_rfl) (by kernel_rfl) (by kernel_rfl) (by kernel_rfl)) ?_
  intro W base args ds gs before hval0 hW hcnd hwt _
  have hval : ∀ (j : Nat) t v, Try.f4.params[j]? = some t → args[j]? = some v → Value.okWide Try.prog W .any base t v := hval0
  have hW' := hW
  obtain ⟨p, q, hA0, hV, rfl, hfz, hnd⟩ := hW
  have hA : DataW.TrodAll enc Try.prog W 0 (fun _ => true) true Try.f4.params.toList args.toList ds p := hA0
  rw [Try.params4] at hA hval
  obtain ⟨v0, vs0, d0, ds0, p0, q0, hargs, rfl, rfl, h0, r0⟩ := trodAll_cons hA
  obtain ⟨rfl, rfl, rfl⟩ := trodAll_nil r0
  obtain rfl : args = #[v0] := by cases args; simp_all
  obtain ⟨rfl, rfl⟩ := trodVars_none hV
  obtain ⟨a0, len0, cap0, rfl⟩ := okWide_slice Try.underlying29 (hval 0 29 v0 rfl rfl)
  have k0 := h0
  have lt0 : ∀ x ∈ p0, x.block < W.heap.size := by obtain ⟨m, hm⟩ := k0; exact DataW.trod_lt m _ _ _ hm
  clear hA0 hval0
  have close : ∀ v w', LawQ W v w' → Rows.crewMergesSpec.post enc Try.prog Try.f4 false true false false W #[.slice a0 len0 cap0] v w' := fun v w' hq => by
    have bel := lawq_below hq
    have hq0 := hq
    obtain ⟨rfl, _⟩ := hq
    have shut : DataW.Trod enc Try.prog { w' with tape := W.tape } 0 (fun b => decide (b < W.heap.size)) true 29 (.slice a0 len0 cap0) d0 p0 := Below.trod laidOut (by kernel_rfl) (of_decide_eq_true (by kernel_rfl)) k0 bel lt0
    exact ⟨_, _, _, [], _, [], hW', (trodAll_mk1 (shut_bool Try.underlying4 _)).of_heap (by rfl), (trodAll_mk1 shut).of_heap (by rfl), rfl, lawq_kept hq0 _, fun h => by cases h⟩
  have fin : (∃ M last o w' t', runNT Try.prog (M + 1) (solo (G (Frame.enter Try.prog 4 #[.slice a0 len0 cap0] .normal) []) W) #[] = (.ended o w', t') ∧ runN Try.prog M (solo (G (Frame.enter Try.prog 4 #[.slice a0 len0 cap0] .normal) []) W) = .next last ∧
      step Try.prog last = .ended o w' ∧ Conc.Good Try.prog (LawQ W) last o w' t') → ∃ M last o w' t', runNT Try.checked.prog (M + 1) (solo (G (Frame.enter Try.checked.prog 4 #[.slice a0 len0 cap0] .normal) []) W) #[] = (.ended o w', t') ∧
        runN Try.checked.prog M (solo (G (Frame.enter Try.checked.prog 4 #[.slice a0 len0 cap0] .normal) []) W) = .next last ∧ step Try.checked.prog last = .ended o w' ∧
        Conc.Good Try.checked.prog (fun v W' => Rows.crewMergesSpec.post enc Try.checked.prog Try.f4 false true false false W #[.slice a0 len0 cap0] v W') last o w' t' := fun ⟨M, last, o, w', t', h1, h2, h3, h4⟩ => ⟨M, last, o, w', t', h1, h2, h3, h4.mono fun v hq => close v w' hq⟩
  refine fin ?_
  cases a0 with
  | none =>
    have hk := hval 0 29 _ rfl rfl
    unfold Value.okWide at hk
    rw [Try.underlying29] at hk
    unfold Cell.okWide at hk
    rw [Try.underlying29] at hk
    simp only [Cell.ok, Try.underlying29] at hk
    have e : len0 = 0 ∧ cap0 = 0 := by
      split at hk
      all_goals first | (rename_i e1 e2; cases e2; exact ⟨rfl, rfl⟩) | exact hk.elim | skip
      all_goals simp_all
    obtain ⟨rfl, rfl⟩ := e
    exact run_none W
  | some ad =>
    obtain ⟨hs, hb⟩ := outer_has Try.underlying29 (hval 0 29 _ rfl rfl)
    obtain ⟨hc, hm, F, hF⟩ := lists_in Try.underlying29 Try.underlying30 (by kernel_rfl) Try.underlying41 (by kernel_rfl) fields h0
    obtain ⟨bo, oo, spot⟩ := ad
    simp only at hs hb
    subst hs
    exact run_some W bo oo len0 cap0 F hb (fun j hj => by
      obtain ⟨k1, k2⟩ := hF j hj
      rw [add_at'] at k1
      exact ⟨k1, k2⟩) hc hm

theorem over : Rows.crewMergesRow.holds Try.pinned (OpenSpec.ofChange Rows.crewMergesSpec) :=
  OpenClaim.holds_of_wide_leaving 4 Try.f4 rfl rfl rfl rfl rfl rfl rfl ⟨rfl, rfl, rfl, rfl, rfl⟩ rfl rfl rfl rfl rfl (by kernel_rfl) Try.func4 (by kernel_rfl)
    (of_decide_eq_true (by kernel_rfl)) (by unfold Func.isWrapper; first | (rw [if_pos (by decide +kernel)]; kernel_rfl) | (rw [if_neg (by decide +kernel)]; exact ⟨rfl, rfl⟩))
    (fun os started H enc _ => lifted os started H enc)

end crewMerges

theorem crewMerges_holds : Rows.CrewMergesSaid := crewMerges.over
#print axioms crewMerges_holds
end Go.Proofs.Ytcobehkadhcjiaa
