/-
  Goroutines among others: part 29 of what the law's own text rests on.
-/
import Derived.Test.YtcobehkadhcjiaaCb28
import Derived.Conc.LeavingOf
/-
  From the first's tree to the run.
-/
namespace Go.Proofs.Ytcobehkadhcjiaa
open Go Go.Conc Go.RowKit Go.ChangeShapes Go.WideShapes Go.ChangeAt Go.Deep

/-- What a law's call leaves: true, and all that was as it was. -/
def LawQ (W : World) (v : Value) (w' : World) : Prop := v = .bool true ∧ (∀ b, b < W.heap.size → w'.heap[b]? = W.heap[b]?) ∧ W.heap.size ≤ w'.heap.size ∧ w'.os = W.os ∧ w'.output = W.output

theorem run_of_tree [Shift] (hP : OkP Try.prog S0 V0) {f : FuncId} {fn : Func} {code : Code} (hf : Try.prog.funcs[f]? = some fn) (hb : fn.body = some code) {args args' : Array Value} {r : BR} {w W : World} (hx : RR S0 r args args') (hr : HR0 S0 r w W) (hn : w.heap.size = Shift.n)
    (h : MI Try.prog S0 V0 (.main fun v _ => v = .bool true) ⟨none, none, []⟩ (bare f (args ++ Array.replicate (fn.ntmps - args.size) undef)) [] [.code code] [] w) :
    ∃ M last o w' t', runNT Try.prog (M + 1) (solo (G (Frame.enter Try.prog f args' .normal) []) W) #[] = (.ended o w', t') ∧ runN Try.prog M (solo (G (Frame.enter Try.prog f args' .normal) []) W) = .next last ∧
      step Try.prog last = .ended o w' ∧ Conc.Good Try.prog (LawQ W) last o w' t' := by
  obtain ⟨m, hm⟩ := h.get
  exact crew_runs (post := fun v _ => v = .bool true) hP (Q := LawQ W) (fun v v' r w w' hv hvr _ h1 h2 h3 h4 => by
    subst hv
    cases hvr
    exact ⟨rfl, h1, h2, h3, h4⟩) _ _ _ (crew_start hf hb hx hr hn hm)

/-- The same world but for what is drawn: what lay there lies there. -/
theorem lawq_below {W w' : World} {v : Value} (h : LawQ W v w') : Below W.heap.size W { w' with tape := W.tape } := ⟨h.2.2.2.1, rfl, h.2.2.2.2, h.2.2.1, h.2.1⟩

theorem lawq_kept {W w' : World} {v : Value} (h : LawQ W v w') (may : MemPlace → Prop) : W.keptBut w' may := by
  refine ⟨h.2.2.2.1, h.2.2.2.2, fun i hi => ?_⟩
  rw [h.2.1 i hi]
  split <;> simp_all

set_option maxRecDepth 100000 in
theorem outer_has {W : World} {base : Nat} {t e : TypeId} {a : Addr} {len cap : Nat} (ht : Try.prog.underlying t = some (.slice e)) (h : Value.okWide Try.prog W .any base t (.slice (some a) len cap)) : a.spot = none ∧ ∃ cs e f, W.heap[a.block]? = some (.cells cs e f) := by
  unfold Value.okWide at h
  rw [ht] at h
  unfold Cell.okWide at h
  rw [ht] at h
  simp only [Cell.ok, ht] at h
  obtain ⟨_, _, _, h2, row, nn, h3, _⟩ := h
  refine ⟨h2, ?_⟩
  unfold World.shape? at h3
  split at h3
  · exact ⟨_, _, _, by assumption⟩
  · cases h3
end Go.Proofs.Ytcobehkadhcjiaa
