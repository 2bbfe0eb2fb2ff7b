/-
  keep.CrewAny: IN WHATEVER ORDER THE LISTS STAND, AND HOWEVER OFTEN, WHAT THE WORKERS MERGE THEM TO IS THE SAME: true at every argument, on every schedule.
-/
import Derived.Test.YtcobehkadhcjiaaCb29
import Derived.Test.YtcobehkadhcjiaaCb35
namespace Go.Proofs.Ytcobehkadhcjiaa
namespace crewAny
open Go Go.Conc Go.ChangeShapes Go.WideShapes Go.ChangeAt Go.RowKit
set_option linter.unusedVariables false

theorem own : ownKnob Try.prog.godebug = none := by kernel_rfl
theorem laidOut : laidOutB Try.prog = true := by kernel_rfl

set_option maxRecDepth 100000 in
theorem fields : FieldsN (match Try.prog.underlying 69 with | some (.struct fs) => fs | _ => #[]) := by
  rw [Try.underlying69]
  refine ⟨rfl, ?_⟩
  intro j f hj
  rcases j with _ | _ | _ | _ | _ | j <;> simp at hj <;> subst hj <;> first | exact ⟨rfl, by kernel_rfl, Try.underlying3⟩ | exact ⟨rfl, by kernel_rfl, Try.underlying4⟩

theorem body5_some : Try.f5.body = some body5 := rfl

/-- The frame at its beginning. -/
theorem frame2 (v u : Value) : (#[v, u] ++ Array.replicate (101 - (#[v, u] : Array Value).size) undef : Array Value).size = 101 ∧ (#[v, u] ++ Array.replicate (101 - (#[v, u] : Array Value).size) undef : Array Value)[0]? = some v ∧ (#[v, u] ++ Array.replicate (101 - (#[v, u] : Array Value).size) undef : Array Value)[1]? = some u := by
  refine ⟨?_, ?_, ?_⟩
  · rw [Array.size_append, Array.size_replicate]
    simp
  · rw [Array.getElem?_append_left (by simp)]
    rfl
  · rw [Array.getElem?_append_left (by simp)]
    rfl
/-- At lists that came in. -/
theorem run_some (W : World) (bo oo n cap : Nat) (F : Nat → Ind) (hb : ∃ cs e f, W.heap[bo]? = some (.cells cs e f)) (hF : ∀ j, j < n → W.cell? ⟨bo, oo + j, none⟩ = some (F j).y ∧ Kd W (F j)) (hc : n ≤ cap) (a : Int) (ha1 : -9223372036854775808 ≤ a) (ha2 : a ≤ 9223372036854775807) :
    ∃ M last o w' t', runNT Try.prog (M + 1) (solo (G (Frame.enter Try.prog 5 #[.slice (some ⟨bo, oo, none⟩) n cap, .int .i64 a] .normal) []) W) #[] = (.ended o w', t') ∧ runN Try.prog M (solo (G (Frame.enter Try.prog 5 #[.slice (some ⟨bo, oo, none⟩) n cap, .int .i64 a] .normal) []) W) = .next last ∧
      step Try.prog last = .ended o w' ∧ Conc.Good Try.prog (LawQ W) last o w' t' := by
  letI := shiftOf (n + 1) (shO oo F)
  have hP : OkP Try.prog S0 V0 := okP (n + 1) (shO oo F)
  have hr := left_hr0 S0 hb hF
  have hL : LsO (leftW W bo n F) (.slice (some ⟨0, 0, none⟩) n cap) ((List.range n).map fun j => (F j).l) := left_ls (fun j hj => (hF j hj).2) hc
  have hx1 : RR S0 (rO bo n F) #[.slice (some ⟨0, 0, none⟩) n cap] #[.slice (some ⟨bo, oo, none⟩) n cap] := RR.nil.push (.slice n cap ⟨.inl ⟨rfl, rfl⟩, by
    show oo = 0 + shf 0
    have : shf 0 = oo := if_pos (show 0 < n + 1 by omega)
    rw [this]; omega, rfl⟩)
  have hx : RR S0 (rO bo n F) #[.slice (some ⟨0, 0, none⟩) n cap, .int .i64 a] #[.slice (some ⟨bo, oo, none⟩) n cap, .int .i64 a] := hx1.push (.int .i64 a)
  refine run_of_tree hP Try.func5 body5_some hx hr (left_size W bo n F) ?_
  rw [Try.ntmps5]
  obtain ⟨z0, g0, g1⟩ := frame2 (.slice (some ⟨0, 0, none⟩) n cap) (.int .i64 a)
  refine any_mi hP _ _ _ a _ (fun j => ?_) (fun j hj i hi => ?_) ha1 ha2 z0 g0 g1 hL fun _ => rfl
  · by_cases hj : j < n
    · rw [List.getD_eq_getElem?_getD, List.getElem?_map, List.getElem?_range hj]
      exact (hF j hj).2.1.1
    · rw [List.getD_eq_getElem?_getD, List.getElem?_eq_none (by simp; omega)]
      exact Nat.zero_le _
  · have hj' : j < n := by simpa using hj
    rw [List.getD_eq_getElem?_getD, List.getElem?_map, List.getElem?_range hj'] at hi ⊢
    exact (hF j hj').2.1.2 i hi
/-- At the nil slice. -/
theorem run_none (W : World) (a : Int) (ha1 : -9223372036854775808 ≤ a) (ha2 : a ≤ 9223372036854775807) :
    ∃ M last o w' t', runNT Try.prog (M + 1) (solo (G (Frame.enter Try.prog 5 #[.slice none 0 0, .int .i64 a] .normal) []) W) #[] = (.ended o w', t') ∧ runN Try.prog M (solo (G (Frame.enter Try.prog 5 #[.slice none 0 0, .int .i64 a] .normal) []) W) = .next last ∧
      step Try.prog last = .ended o w' ∧ Conc.Good Try.prog (LawQ W) last o w' t' := by
  letI := shiftOf 0 (fun _ => 0)
  have hP : OkP Try.prog S0 V0 := okP 0 (fun _ => 0)
  have hr : HR0 S0 (fun _ _ => False) { W with heap := #[] } W := ⟨fun h => h.elim, fun h => h.elim, fun h => h.elim, Nat.le_refl _⟩
  have hx1 : RR S0 (fun _ _ => False) #[.slice none 0 0] #[.slice none 0 0] := RR.nil.push (.nilSlice _ _)
  have hx : RR S0 (fun _ _ => False) #[.slice none 0 0, .int .i64 a] #[.slice none 0 0, .int .i64 a] := hx1.push (.int .i64 a)
  refine run_of_tree hP Try.func5 body5_some hx hr rfl ?_
  rw [Try.ntmps5]
  obtain ⟨z0, g0, g1⟩ := frame2 (.slice none 0 0) (.int .i64 a)
  exact any_mi hP _ _ _ a [] (fun j => by simp) (fun j hj => by simp at hj) ha1 ha2 z0 g0 g1 (.inl ⟨rfl, _, _, rfl⟩) fun _ => rfl

set_option maxRecDepth 100000 in
theorem lifted (os : Os) (started : os.Started) (H : Type) (enc : TypeId × Value → H) :
    ReturnsInLeavingWide {} Try.checked os 5 .any (Rows.crewAnySpec.pre6 enc Try.prog Try.f5 Rows.crewAnyRow.domain false) (Rows.crewAnySpec.post enc Try.prog Try.f5 false true false false) := by
  refine returnsInLeavingWide_of_change_sized (C := Try.checked) own started Try.func5
    (ChangeSpec.witness6 (enc := enc) (C := Try.checked) false ⟨#[], #[.slice none 0 0, .int .i64 0], []⟩ 8 (by kernel_rfl) (by kernel_rfl) (by kernel_rfl) (by kernel_rfl)) ?_
  intro W base args ds gs before hval0 hW hcnd hwt _
  have hval : ∀ (j : Nat) t v, Try.f5.params[j]? = some t → args[j]? = some v → Value.okWide Try.prog W .any base t v := hval0
  have hW' := hW
  obtain ⟨p, q, hA0, hV, rfl, hfz, hnd⟩ := hW
  have hA : DataW.TrodAll enc Try.prog W 0 (fun _ => true) true Try.f5.params.toList args.toList ds p := hA0
  rw [Try.params5] at hA hval
  obtain ⟨v0, vs0, d0, ds0, p0, q0, hargs, rfl, rfl, h0, r0⟩ := trodAll_cons hA
  obtain ⟨v1, vs1, d1, ds1, p1, q1, rfl, rfl, rfl, h1, r1⟩ := trodAll_cons r0
  obtain ⟨rfl, rfl, rfl⟩ := trodAll_nil r1
  obtain rfl : args = #[v0, v1] := by cases args; simp_all
  obtain ⟨rfl, rfl⟩ := trodVars_none hV
  obtain ⟨a0, len0, cap0, rfl⟩ := okWide_slice Try.underlying35 (hval 0 35 v0 rfl rfl)
  have k0 := h0
  have lt0 : ∀ x ∈ p0, x.block < W.heap.size := by obtain ⟨m, hm⟩ := k0; exact DataW.trod_lt m _ _ _ hm
  have k1 := h1
  have lt1 : ∀ x ∈ p1, x.block < W.heap.size := by obtain ⟨m, hm⟩ := k1; exact DataW.trod_lt m _ _ _ hm
  obtain ⟨a1, rfl, _, _, wf1⟩ := open_int Try.underlying3 (hval 1 3 v1 rfl rfl) h1
  obtain ⟨ha1, ha2⟩ := bounds_i64 wf1
  clear hA0 hval0
  have close : ∀ v w', LawQ W v w' → Rows.crewAnySpec.post enc Try.prog Try.f5 false true false false W #[.slice a0 len0 cap0, .int .i64 a1] v w' := fun v w' hq => by
    have bel := lawq_below hq
    have hq0 := hq
    obtain ⟨rfl, _⟩ := hq
    have shut : DataW.Trod enc Try.prog { w' with tape := W.tape } 0 (fun b => decide (b < W.heap.size)) true 35 (.slice a0 len0 cap0) d0 p0 := Below.trod laidOut (by kernel_rfl) (of_decide_eq_true (by kernel_rfl)) k0 bel lt0
    have shut1 := Below.trod laidOut (by kernel_rfl) (of_decide_eq_true (by kernel_rfl)) k1 bel lt1
    exact ⟨_, _, _, [], _, [], hW', (trodAll_mk1 (shut_bool Try.underlying4 _)).of_heap (by rfl), (trodAll_cons_mk shut (trodAll_cons_mk shut1 trodAll_mk0)).of_heap (by rfl), rfl, lawq_kept hq0 _, fun h => by cases h⟩
  have fin : (∃ M last o w' t', runNT Try.prog (M + 1) (solo (G (Frame.enter Try.prog 5 #[.slice a0 len0 cap0, .int .i64 a1] .normal) []) W) #[] = (.ended o w', t') ∧ runN Try.prog M (solo (G (Frame.enter Try.prog 5 #[.slice a0 len0 cap0, .int .i64 a1] .normal) []) W) = .next last ∧
      step Try.prog last = .ended o w' ∧ Conc.Good Try.prog (LawQ W) last o w' t') → ∃ M last o w' t', runNT Try.checked.prog (M + 1) (solo (G (Frame.enter Try.checked.prog 5 #[.slice a0 len0 cap0, .int .i64 a1] .normal) []) W) #[] = (.ended o w', t') ∧
        runN Try.checked.prog M (solo (G (Frame.enter Try.checked.prog 5 #[.slice a0 len0 cap0, .int .i64 a1] .normal) []) W) = .next last ∧ step Try.checked.prog last = .ended o w' ∧
        Conc.Good Try.checked.prog (fun v W' => Rows.crewAnySpec.post enc Try.checked.prog Try.f5 false true false false W #[.slice a0 len0 cap0, .int .i64 a1] v W') last o w' t' := fun ⟨M, last, o, w', t', h1, h2, h3, h4⟩ => ⟨M, last, o, w', t', h1, h2, h3, h4.mono fun v hq => close v w' hq⟩
  refine fin ?_
  cases a0 with
  | none =>
    have hk := hval 0 35 _ rfl rfl
    unfold Value.okWide at hk
    rw [Try.underlying35] at hk
    unfold Cell.okWide at hk
    rw [Try.underlying35] at hk
    simp only [Cell.ok, Try.underlying35] at hk
    have e : len0 = 0 ∧ cap0 = 0 := by
      split at hk
      all_goals first | (rename_i e1 e2; cases e2; exact ⟨rfl, rfl⟩) | exact hk.elim | skip
      all_goals simp_all
    obtain ⟨rfl, rfl⟩ := e
    exact run_none W a1 ha1 ha2
  | some ad =>
    obtain ⟨hs, hb⟩ := outer_has Try.underlying35 (hval 0 35 _ rfl rfl)
    obtain ⟨hc, hm, F, hF⟩ := lists_in Try.underlying35 Try.underlying38 (by kernel_rfl) Try.underlying69 (by kernel_rfl) fields h0
    obtain ⟨bo, oo, spot⟩ := ad
    simp only at hs hb
    subst hs
    exact run_some W bo oo len0 cap0 F hb (fun j hj => by
      obtain ⟨k1, k2⟩ := hF j hj
      rw [add_at'] at k1
      exact ⟨k1, k2⟩) hc a1 ha1 ha2

theorem over : Rows.crewAnyRow.holds Try.pinned (OpenSpec.ofChange Rows.crewAnySpec) :=
  OpenClaim.holds_of_wide_leaving 5 Try.f5 rfl rfl rfl rfl rfl rfl rfl ⟨rfl, rfl, rfl, rfl, rfl⟩ rfl rfl rfl rfl rfl (by kernel_rfl) Try.func5 (by kernel_rfl)
    (of_decide_eq_true (by kernel_rfl)) (by unfold Func.isWrapper; first | (rw [if_pos (by decide +kernel)]; kernel_rfl) | (rw [if_neg (by decide +kernel)]; exact ⟨rfl, rfl⟩))
    (fun os started H enc _ => lifted os started H enc)

end crewAny

theorem crewAny_holds : Rows.CrewAnySaid := crewAny.over
#print axioms crewAny_holds
end Go.Proofs.Ytcobehkadhcjiaa
