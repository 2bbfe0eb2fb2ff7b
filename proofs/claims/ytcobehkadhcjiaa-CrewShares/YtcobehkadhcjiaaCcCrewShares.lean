/-
  keep.CrewShares: WHAT MANY WORKERS SHARE OUT AT ONCE IS WHAT EACH SHARES OUT ALONE (sync.WaitGroup): true at every argument, on every schedule.
-/
import Derived.Test.YtcobehkadhcjiaaCc40
namespace Go.Proofs.Ytcobehkadhcjiaa
namespace crewShares
open Go Go.Conc Go.ConcN Go.Conc.Lib Go.ChangeShapes Go.WideShapes Go.ChangeAt Go.RowKit
open Go.ConcR (Payload)
set_option linter.unusedVariables false

theorem own : ownKnob Try.prog.godebug = none := by kernel_rfl
theorem laidOut : laidOutB Try.prog = true := by kernel_rfl
theorem body6_some : Try.f6.body = some body6 := rfl
theorem frame6 (va vb : Value) : (#[va, vb] ++ Array.replicate (112 - (#[va, vb] : Array Value).size) undef : Array Value).size = 112 ∧ (#[va, vb] ++ Array.replicate (112 - (#[va, vb] : Array Value).size) undef : Array Value)[0]? = some va ∧ (#[va, vb] ++ Array.replicate (112 - (#[va, vb] : Array Value).size) undef : Array Value)[1]? = some vb := by
  refine ⟨by simp, ?_, ?_⟩
  · rw [Array.getElem?_append_left (by simp)]; rfl
  · rw [Array.getElem?_append_left (by simp)]; rfl

/-- At whatever came in. -/
theorem run_all (W : World) (X : InX) (hX : OkX W X) (hT : ∀ z ∈ X.T.l, (Lit.int .i64 z).wf = true) (hF : ∀ j, j < X.n → ∀ z ∈ (X.F j).l, (Lit.int .i64 z).wf = true) :
    ∃ M last o w' t', runNT Try.prog (M + 1) (solo (G (Frame.enter Try.prog 6 #[X.T.y, X.y1] .normal) []) W) #[] = (.ended o w', t') ∧ runN Try.prog M (solo (G (Frame.enter Try.prog 6 #[X.T.y, X.y1] .normal) []) W) = .next last ∧
      step Try.prog last = .ended o w' ∧ Conc.Good Try.prog (LawQ W) last o w' t' := by
  letI := shiftOf (X.n + 2) (shX X)
  letI : Payload := ⟨24⟩
  have hP : OkP Try.prog S1 V1 := okP1 (X.n + 2) (shX X)
  obtain ⟨pa, ca, e0, hseg⟩ := leftX_seg (W := W) hX
  refine run_of_treeJ hP Try.func6 body6_some (leftX_rr S1 hX) (leftX_hr0 S1 hX) (leftX_size W X) ?_
  rw [Try.ntmps6]
  obtain ⟨z, g0, g1⟩ := frame6 X.u0 X.u1
  have g0' := g0.trans (congrArg some e0)
  rw [e0] at hseg
  let D : DA := ⟨leftX W X, pa, X.T.l.length, ca, X.p1, X.n, X.cap, X.T.l, X.ws⟩
  have hD : OkA D := ⟨rfl, X.ws_len, hseg, leftX_tab hX, leftX_big hX, fun j hj => bounds_i64 (hT _ (Bo.Plain.mem_getD hj)), fun j hj z hz => by
    have hz' : z ∈ X.ws.getD j [] := hz
    rw [X.ws_at hj] at hz'
    exact hF j hj z hz'⟩
  exact law6_mj hP _ hD (by show X.n + 2 ≤ (leftX W X).heap.size; rw [leftX_size]; exact Nat.le_refl _) rfl z g0' g1 fun _ => rfl

set_option maxRecDepth 100000 in
theorem lifted (os : Os) (started : os.Started) (H : Type) (enc : TypeId × Value → H) :
    ReturnsInLeavingWide {} Try.checked os 6 .any (Rows.crewSharesSpec.pre6 enc Try.prog Try.f6 Rows.crewSharesRow.domain false) (Rows.crewSharesSpec.post enc Try.prog Try.f6 false true false false) := by
  refine returnsInLeavingWide_of_change_sized (C := Try.checked) own started Try.func6
    (ChangeSpec.witness6 (enc := enc) (C := Try.checked) false ⟨#[], #[.slice none 0 0, .slice none 0 0], []⟩ 8 (by kernel_rfl) (by kernel_rfl) (by kernel_rfl) (by kernel_rfl)) ?_
  intro W base args ds gs before hval0 hW hcnd hwt _
  have hval : ∀ (j : Nat) t v, Try.f6.params[j]? = some t → args[j]? = some v → Value.okWide Try.prog W .any base t v := hval0
  have hW' := hW
  obtain ⟨p, q, hA0, hV, rfl, hfz, hnd⟩ := hW
  have hA : DataW.TrodAll enc Try.prog W 0 (fun _ => true) true Try.f6.params.toList args.toList ds p := hA0
  rw [Try.params6] at hA hval
  obtain ⟨v0, vs0, d0, ds0, p0, q0, hargs, rfl, rfl, h0, r0⟩ := trodAll_cons hA
  obtain ⟨v1, vs1, d1, ds1, p1, q1, rfl, rfl, rfl, h1, r1⟩ := trodAll_cons r0
  obtain ⟨rfl, rfl, rfl⟩ := trodAll_nil r1
  obtain rfl : args = #[v0, v1] := by cases args; simp_all
  obtain ⟨rfl, rfl⟩ := trodVars_none hV
  obtain ⟨a0, len0, cap0, rfl⟩ := okWide_slice Try.underlying22 (hval 0 22 v0 rfl rfl)
  obtain ⟨a1, len1, cap1, rfl⟩ := okWide_slice Try.underlying23 (hval 1 23 v1 rfl rfl)
  have k0 := h0
  have k1 := h1
  have lt0 : ∀ x ∈ p0, x.block < W.heap.size := by obtain ⟨m, hm⟩ := k0; exact DataW.trod_lt m _ _ _ hm
  have lt1 : ∀ x ∈ p1, x.block < W.heap.size := by obtain ⟨m, hm⟩ := k1; exact DataW.trod_lt m _ _ _ hm
  clear hA0 hval0
  have close : ∀ v w', LawQ W v w' → Rows.crewSharesSpec.post enc Try.prog Try.f6 false true false false W #[.slice a0 len0 cap0, .slice a1 len1 cap1] v w' := fun v w' hq => by
    have bel := lawq_below hq
    have hq0 := hq
    obtain ⟨rfl, _⟩ := hq
    have shut0 : DataW.Trod enc Try.prog { w' with tape := W.tape } 0 (fun b => decide (b < W.heap.size)) true 22 (.slice a0 len0 cap0) d0 p0 := Below.trod laidOut (by kernel_rfl) (of_decide_eq_true (by kernel_rfl)) k0 bel lt0
    have shut1 : DataW.Trod enc Try.prog { w' with tape := W.tape } 0 (fun b => decide (b < W.heap.size)) true 23 (.slice a1 len1 cap1) d1 p1 := Below.trod laidOut (by kernel_rfl) (of_decide_eq_true (by kernel_rfl)) k1 bel lt1
    exact ⟨_, _, _, [], _, [], hW', (trodAll_mk1 (shut_bool Try.underlying4 _)).of_heap (by rfl), (trodAll_mk2 shut0 shut1).of_heap (by rfl), rfl, lawq_kept hq0 _, fun h => by cases h⟩
  obtain ⟨X, hX, e0, e1, hT, hF⟩ := all_in2 h0 (hval 0 22 _ rfl rfl) h1 (hval 1 23 _ rfl rfl)
  obtain ⟨M, last, o, w', t', q1, q2, q3, q4⟩ := run_all W X hX hT hF
  rw [← e0, ← e1] at q1 q2
  exact ⟨M, last, o, w', t', q1, q2, q3, q4.mono fun v hq => close v w' hq⟩

theorem over : Rows.crewSharesRow.holds Try.pinned (OpenSpec.ofChange Rows.crewSharesSpec) :=
  OpenClaim.holds_of_wide_leaving 6 Try.f6 rfl rfl rfl rfl rfl rfl rfl ⟨rfl, rfl, rfl, rfl, rfl⟩ rfl rfl rfl rfl rfl (by kernel_rfl) Try.func6 (by kernel_rfl)
    (of_decide_eq_true (by kernel_rfl)) (by unfold Func.isWrapper; first | (rw [if_pos (by decide +kernel)]; kernel_rfl) | (rw [if_neg (by decide +kernel)]; exact ⟨rfl, rfl⟩))
    (fun os started H enc _ => lifted os started H enc)

end crewShares

theorem crewShares_holds : Rows.CrewSharesSaid := crewShares.over
#print axioms crewShares_holds
end Go.Proofs.Ytcobehkadhcjiaa
