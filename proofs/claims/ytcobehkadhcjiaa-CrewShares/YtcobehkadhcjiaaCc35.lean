/-
  Goroutines among others: part 35 of what the law's own text rests on.
-/
import Derived.Test.YtcobehkadhcjiaaCc34
import Derived.Conc.LeavingOf
/-
  From the first's tree to the run, beside sync.WaitGroup.
-/
namespace Go.Proofs.Ytcobehkadhcjiaa
open Go Go.Conc Go.ConcN Go.Conc.Lib Go.RowKit Go.ChangeShapes Go.WideShapes Go.ChangeAt Go.Deep
open Go.ConcR (Payload)

/-- What a law's call leaves: true, and all that was as it was. -/
def LawQ (W : World) (v : Value) (w' : World) : Prop := v = .bool true ∧ (∀ b, b < W.heap.size → w'.heap[b]? = W.heap[b]?) ∧ W.heap.size ≤ w'.heap.size ∧ w'.os = W.os ∧ w'.output = W.output

theorem run_of_treeJ [Shift] [Payload] (hP : OkP Try.prog S1 V1) {f : FuncId} {fn : Func} {code : Code} (hf : Try.prog.funcs[f]? = some fn) (hb : fn.body = some code) {args args' : Array Value} {r : BR} {w W : World} (hx : RR S1 r args args') (hr : HR0 S1 r w W) (hn : w.heap.size = Shift.n)
    (h : MJ Try.prog wgL S1 V1 (.main (fun v _ => v = .bool true) ⟨none, false, none, []⟩) (bare f (args ++ Array.replicate (fn.ntmps - args.size) undef)) [] [.code code] [] w) :
    ∃ M last o w' t', runNT Try.prog (M + 1) (solo (G (Frame.enter Try.prog f args' .normal) []) W) #[] = (.ended o w', t') ∧ runN Try.prog M (solo (G (Frame.enter Try.prog f args' .normal) []) W) = .next last ∧
      step Try.prog last = .ended o w' ∧ Conc.Good Try.prog (LawQ W) last o w' t' := by
  obtain ⟨m, hm⟩ := h.get
  exact crewj_runs (post := fun v _ => v = .bool true) hP wgLib (Q := LawQ W) (fun v v' r w w' hv hvr _ h1 h2 h3 h4 => by
    subst hv
    cases hvr
    exact ⟨rfl, h1, h2, h3, h4⟩) _ _ _ (crewj_start hf hb hx hr hn hm)

theorem lawq_below {W w' : World} {v : Value} (h : LawQ W v w') : Below W.heap.size W { w' with tape := W.tape } := ⟨h.2.2.2.1, rfl, h.2.2.2.2, h.2.2.1, h.2.1⟩
theorem lawq_kept {W w' : World} {v : Value} (h : LawQ W v w') (may : MemPlace → Prop) : W.keptBut w' may := by
  refine ⟨h.2.2.2.1, h.2.2.2.2, fun i hi => ?_⟩
  rw [h.2.1 i hi]
  split <;> simp_all
set_option maxRecDepth 100000 in
theorem outer_has {W : World} {base : Nat} {t e : TypeId} {a : Addr} {len cap : Nat} (ht : Try.prog.underlying t = some (.slice e)) (h : Value.okWide Try.prog W .any base t (.slice (some a) len cap)) : a.spot = none ∧ ∃ cs e f, W.heap[a.block]? = some (.cells cs e f) := by
  unfold Value.okWide at h
  rw [ht] at h
  unfold Cell.okWide at h
  rw [ht] at h
  simp only [Cell.ok, ht] at h
  obtain ⟨_, _, _, h2, row, nn, h3, _⟩ := h
  refine ⟨h2, ?_⟩
  unfold World.shape? at h3
  split at h3
  · exact ⟨_, _, _, by assumption⟩
  · cases h3
set_option maxRecDepth 100000 in
theorem nil_has {W : World} {base : Nat} {t e : TypeId} {len cap : Nat} (ht : Try.prog.underlying t = some (.slice e)) (h : Value.okWide Try.prog W .any base t (.slice none len cap)) : len = 0 ∧ cap = 0 := by
  unfold Value.okWide at h
  rw [ht] at h
  unfold Cell.okWide at h
  rw [ht] at h
  simp only [Cell.ok, ht] at h
  split at h
  all_goals first | (rename_i e1 e2; cases e2; exact ⟨rfl, rfl⟩) | exact h.elim | skip
  all_goals simp_all

/-- What is asked of the program. -/
theorem no_ready : (Try.prog.funcs.all fun f => (f.body.map readies).all (fun l => l.isEmpty)) = true := by kernel_rfl
theorem hst : ∀ g, Try.prog.stepOf g = none := fun g => by
  unfold Program.stepOf
  rw [Array.findIdx?_eq_none_iff]
  intro f hf
  have := Array.all_eq_true_iff_forall_mem.1 no_ready f hf
  cases hb : f.body.map readies with
  | none => rfl
  | some l =>
    rw [hb] at this
    have hl : l = [] := by simpa using this
    subst hl
    rfl
theorem okP1 (n : Nat) (sh : Nat → Nat) : @OkP (shiftOf n sh) Try.prog S1 V1 :=
  letI := shiftOf n sh
  { globals := ok_glob, bog := ok_bog, funcs := fun f hf => okFn_spec (List.all_eq_true.1 all_ok1 f (by simpa [S1] using hf)), over := fun f hf => (Bool.false_ne_true hf).elim, ahead := ok_ahead, steps := hst }

set_option maxRecDepth 100000 in
/-- A row of numbers that came in. -/
theorem row_in {H : Type} {enc : TypeId × Value → H} {W : World} {d : DataW H} {p : List MemPlace} {a : Option Addr} {len cap base : Nat} (h : DataW.Trod enc Try.prog W 0 (fun _ => true) true 22 (.slice a len cap) d p) (ho : Value.okWide Try.prog W .any base 22 (.slice a len cap)) :
    ∃ I : InI, .slice a len cap = I.y ∧ ((I.y = .slice none 0 0 ∧ I.l = [] ∧ I.bl = none) ∨ WnI W I) := by
  obtain ⟨fuel, hfu⟩ := h
  obtain ⟨I, e, hI⟩ := int_open hfu
  have e' : Value.slice a len cap = I.y := by simpa [Value.cells] using e
  rcases hI.2 with k | ⟨ad, y, l, bl⟩ | k
  · exact ⟨I, e', .inl k⟩
  · rw [y] at e'
    injection e' with e1 e2 e3
    subst e1 e2 e3
    obtain ⟨hs, hb⟩ := outer_has Try.underlying22 ho
    obtain ⟨bo, oo, spot⟩ := ad
    simp only at hs hb
    subst hs
    exact ⟨⟨.slice (some ⟨bo, oo, none⟩) 0 0, [], oo, some bo, 0⟩, rfl, .inr ⟨bo, rfl, rfl, hb, fun i hi => absurd hi (by simp)⟩⟩
  · exact ⟨I, e', .inr k⟩
set_option maxRecDepth 100000 in
/-- What came in, whole. -/
theorem all_in {H : Type} {enc : TypeId × Value → H} {W : World} {d0 d1 : DataW H} {p0 p1 : List MemPlace} {a0 a1 : Option Addr} {n0 c0 n1 c1 b0 b1 : Nat} (h0 : DataW.Trod enc Try.prog W 0 (fun _ => true) true 22 (.slice a0 n0 c0) d0 p0) (o0 : Value.okWide Try.prog W .any b0 22 (.slice a0 n0 c0))
    (h1 : DataW.Trod enc Try.prog W 0 (fun _ => true) true 23 (.slice a1 n1 c1) d1 p1) (o1 : Value.okWide Try.prog W .any b1 23 (.slice a1 n1 c1)) : ∃ X : InX, OkX W X ∧ .slice a0 n0 c0 = X.T.y ∧ .slice a1 n1 c1 = X.y1 := by
  obtain ⟨I, e, hI⟩ := row_in h0 o0
  cases a1 with
  | none =>
    obtain ⟨rfl, rfl⟩ := nil_has Try.underlying23 o1
    exact ⟨⟨I, none, 0, 0, 0, fun _ => I⟩, ⟨hI, .inl ⟨rfl, rfl, rfl⟩, fun j hj => absurd hj (Nat.not_lt_zero _)⟩, e, rfl⟩
  | some ad =>
    obtain ⟨hs, hb⟩ := outer_has Try.underlying23 o1
    obtain ⟨_, _, F, hF⟩ := ints_in h1
    obtain ⟨bo, oo, spot⟩ := ad
    simp only at hs hb
    subst hs
    exact ⟨⟨I, some bo, oo, n1, c1, F⟩, ⟨hI, .inr ⟨bo, rfl, hb⟩, fun j hj => by
      obtain ⟨k1, k2⟩ := hF j hj
      exact ⟨bo, rfl, (congrArg W.cell? (add_at' bo oo j).symm).trans k1, k2⟩⟩, e, rfl⟩
end Go.Proofs.Ytcobehkadhcjiaa
