/-
  Goroutines among others: part 17 of what the law's own text rests on.
-/
import Derived.Test.YtcobehkadhcjiaaCb13
import Derived.Test.YtcobehkadhcjiaaCb16
import Derived.Laws.Tables
import Derived.Conc.SmallLaws
import Derived.Great.BuildSlice
/-
  crew.mergeTwo, among others.
-/
namespace Go.Proofs.Ytcobehkadhcjiaa
open Go Go.Conc Go.RowKit Go.Sort

theorem cell_heap {w w' : World} (h : w'.heap = w.heap) (a : Addr) : w'.cell? a = w.cell? a := by
  unfold World.cell?
  rw [h]
theorem SegN.heap {w w' : World} (h : w'.heap = w.heap) {v : Value} {l : List Plain.En} (s : SegN w v l) : SegN w' v l := by
  rcases s with ⟨e, p, c, k⟩ | ⟨b, off, c, e, hc, k⟩
  · exact .inl ⟨e, p, c, k⟩
  · refine .inr ⟨b, off, c, e, hc, fun j hj => ?_⟩
    obtain ⟨k0, k1, k2, k3, k4⟩ := k j hj
    exact ⟨by rw [cell_heap h]; exact k0, by rw [cell_heap h]; exact k1, by rw [cell_heap h]; exact k2, by rw [cell_heap h]; exact k3, by rw [cell_heap h]; exact k4⟩

/-- What a worker tells of two lists. -/
def specM (a b : List Plain.En) : World → Value → Prop := fun w v => ∃ r, v = .agg #[r, .int .i64 (Plain.mergeE a b : Nat)] ∧ SegN w r (Plain.mergeR a b) ∧ Slv w.heap.size r

theorem okp (n : Nat) (sh : Nat → Nat) (hst : ∀ g, Try.prog.stepOf g = none) (hov : ∃ fn, Try.prog.funcs[83]? = some fn ∧ (fn.name == "runtime.NumGoroutine") = false ∧ fn.body = none ∧ Extern.findNext fn = none ∧ Extern.find fn = some (Extern.SlicesOverlaps.overlaps fn.params fn.resultTypes)) :
    @OkP (shiftOf n sh) Try.prog S0 V0 :=
  letI := shiftOf n sh
  { globals := ok_glob, bog := ok_bog, funcs := fun f hf => okFn_spec (List.all_eq_true.1 all_ok f (by simpa [S0] using hf)), over := fun f hf => by
      have : f = 83 := by simpa [V0] using hf
      subst this
      exact hov, ahead := ok_ahead, steps := hst }

noncomputable def code0 : Code := match Try.f65.body with | some (.seq a _) => a | _ => .skip
noncomputable def code1 : Code := match Try.f65.body with | some (.seq _ b) => b | _ => .skip
theorem ok0 : okCode Try.prog S0 V0 code0 = true := by kernel_rfl

variable [Shift]
set_option maxHeartbeats 1000000 in
theorem two_mi (hP : OkP Try.prog S0 V0) (va vb : Value) (a b : List Plain.En) (c : Nat) (hla : a.length ≤ 9223372036854775807) (hlb : b.length ≤ 9223372036854775807) (w : World) (sa : SegN w va a) (ya : Lies w.heap.size va) (sb : SegN w vb b) (yb : Lies w.heap.size vb)
    (K : ∀ (ts : Array Value) (r : Value) (w' : World), ts.size = 18 → ts[2]? = some (.chan (some c)) → ts[6]? = some r → ts[7]? = some (.int .i64 (Plain.mergeE a b : Nat)) → OwnN w' w.heap.size 41 r (Plain.mergeR a b) → MI Try.prog S0 V0 (.wk c w.heap.size (specM a b)) ⟨none, none, []⟩ (bare 65 ts) [] [.code code1] [] w') :
    MI Try.prog S0 V0 (.wk c w.heap.size (specM a b)) ⟨none, none, []⟩ (bare 65 #[va, vb, .chan (some c), undef, undef, undef, undef, undef, undef, undef, undef, undef, undef, undef, undef, undef, undef, undef]) [] [.code (.seq code0 code1)] [] w := by
  refine MI.ctl (k1 := [.code code0, .code code1]) (fun _ _ _ _ _ => stepG_seq) ?_
  refine MI.frag hP ok0 fun T => ?_
  obtain ⟨wT, hwT⟩ : ∃ wT, wT = retape w T := ⟨_, rfl⟩
  have hh : wT.heap = w.heap := by rw [hwT]; rfl
  rw [← hwT]
  have K1 := merge_own va vb a b hla hlb wT (sa.heap hh) (by rw [hh]; exact ya) (sb.heap hh) (by rw [hh]; exact yb)
  rw [hh] at K1
  clear sa sb ya yb hwT
  unfold code0
  show Code.wp Try.prog (Code.region 0 _ false) _ _ _
  go_wp2_with fail
  refine K1.mono ?_
  rintro e w1 ⟨r, rfl, hO, hb⟩
  go_wp2_with fail
  exact fun U => K _ r _ rfl rfl rfl rfl hO

omit [Shift] in
/-- Behind what it tells a worker leaves. -/
theorem quits_fn {P : Program} {f : FuncId} {fn : Func} {t : Array Value} {ops : Array Oper} (hf : P.funcs[f]? = some fn) (hr : fn.results = #[]) : QuitsIn P 4 (G ((baseK .deferred f).at ⟨t, []⟩ [.inRegion ops []]) [botF P]) := by
  refine QuitsIn.ctl (g' := G ((baseK .deferred f).at ⟨t, []⟩ []) [botF P]) rfl (fun _ => stepG_region_end) ?_
  refine QuitsIn.ctl (g' := G { (baseK .deferred f).at ⟨t, []⟩ [] with mode := .returning } [botF P]) rfl (fun _ => stepG_end) ?_
  refine QuitsIn.ctl (g' := G (botF P) []) rfl (fun w => ?_) ?_
  · have h1 := results_none hr t P w
    have h2 := events_results_none (P := P) (w := w) hr t #[]
    simp [G, stepG, unwind, doReturn, Frame.at, baseK, base, hf, h1, h2, botF, goexitEntry, seen_none, GStep.after]
  · refine QuitsIn.ctl (g' := { G (botF P) [] with status := .finished }) rfl (fun w => ?_) rfl
    have hn : P.funcs[P.funcs.size]? = none := by simp
    have hc : Frame.catches P (botF P) = false := by
      unfold Frame.catches
      have h2 : (botF P).todo = [] := rfl
      have h3 : P.funcs[(botF P).fn]? = none := hn
      rw [h2, h3]
    simp only [botF, goexitEntry] at hc
    simp [G, stepG, unwind, botF, goexitEntry]
    exact hc
end Go.Proofs.Ytcobehkadhcjiaa

/-
  crew.mergeTwo, among others: what it tells.
-/
namespace Go.Proofs.Ytcobehkadhcjiaa
open Go Go.Conc Go.RowKit Go.Sort

noncomputable def ops1 : Array Oper := match code1 with | .region _ o _ => o | _ => #[]
theorem code1_is : code1 = .region 1 ops1 false := rfl

set_option maxRecDepth 100000 in
theorem built98 (p : Option Addr) (n c : Nat) (k : Int) : Try.prog.built 98 [(0, .slice p n c), (1, .int .i64 k)] = some #[.slice p n c, .int .i64 k] := by rfl
theorem run_build98 (e : Operand → Value) (w : World) {o : Oper} (ho : ops1[3]? = some o) {p : Option Addr} {n c : Nat} {k : Int} (h1 : e (.tmp 15) = .slice p n c) (h2 : e (.tmp 16) = .int .i64 k) : (execOp e o).run Try.prog w = .ok (.value (.agg #[.slice p n c, .int .i64 k])) w := by
  have : o = { dst := some 17, op := Op.build 98 #[(0, Operand.tmp 15), (1, Operand.tmp 16)], type := 98, pos := "crew.go:80", after := #[{ on := 1, ground := Ground.data }, { on := 2, ground := Ground.data }], guard := none } := (Option.some.inj ho).symm
  subst this
  have e0 : Array.map (fun x : Nat × Operand => (x.1, e x.2)) #[(0, .tmp 15), (1, .tmp 16)] = #[(0, .slice p n c), (1, .int .i64 k)] := by simp [h1, h2]
  unfold execOp
  simp only [Sem.run_bind]
  rw [e0, run_build (P := Try.prog) w 98 #[(0, .slice p n c), (1, .int .i64 k)] _ (built98 p n c k)]
  rfl

section
variable [Shift] {P : Program} {S V : FuncId → Bool} {ρ : Role} {σ : Sg}
theorem MI.move {f : FuncId} {t : Array Value} {ops : Array Oper} {i : Nat} {rest : List Nat} {o : Oper} {k : List Item} {cs : List Frame} {w : World} {x : Operand} (ho : ops[i]? = some o) (hop : o.op = .move x ∨ o.op = .assign x) (hg : o.guard = none) (hx : okX S x = true)
    (h : ∀ U, MI P S V ρ σ (bare f (putT t o.dst (Act.eval ⟨t, []⟩ x))) [] (.inRegion ops rest :: k) cs (onT w U)) : MI P S V ρ σ (bare f t) [] (.inRegion ops (i :: rest) :: k) cs w := by
  refine MI.op (fun _ => some (Act.eval ⟨t, []⟩ x)) (fun T => retape w T) ho (by simp [Region.wanted, hg]) (by rcases hop with e | e <;> rw [e] <;> exact hx) (fun T => ?_) fun T => h _
  unfold execOp
  rcases hop with e | e <;> rw [e] <;> rfl
end
end Go.Proofs.Ytcobehkadhcjiaa

/-
  crew.mergeTwo, among others: all of it.
-/
namespace Go.Proofs.Ytcobehkadhcjiaa
open Go Go.Conc Go.RowKit Go.Sort

theorem cell_of {w : World} {b o : Nat} {u : Value} (h : w.cell? ⟨b, o, none⟩ = some u) : ∃ c e f, w.heap[b]? = some (.cells c e f) ∧ c[o]? = some u := by
  unfold World.cell? at h
  split at h
  · rename_i c e f hc
    exact ⟨c, e, f, hc, by simpa using h⟩
  · cases h
theorem cell_is {w : World} {b o : Nat} {u : Value} {c : Array Value} {e : TypeId} {f : Nat × Nat} (h : w.heap[b]? = some (.cells c e f)) (hu : c[o]? = some u) : w.cell? ⟨b, o, none⟩ = some u := by
  unfold World.cell?
  simp only [h]
  simpa using hu

theorem moves_specM (a b : List Plain.En) : Moves (specM a b) := by
  intro q w w1 cs cs1 hq hz hv ⟨r, e, hs, hl⟩
  cases e
  have z1 : cs1.size = 2 := hz
  obtain ⟨_, hn0, hs0⟩ := hv 0 (by simp) (by omega)
  obtain ⟨hp1, _, _⟩ := hv 1 (by simp) (by omega)
  have e1 : cs1[1] = .int .i64 (Plain.mergeE a b : Nat) := hp1 (by simp [Plnv])
  have e2 : cs1 = #[cs1[0], .int .i64 (Plain.mergeE a b : Nat)] := by
    apply Array.ext (by simp [z1])
    intro i h1 h2
    have : i = 0 ∨ i = 1 := by simp at h2; omega
    rcases this with rfl | rfl
    · simp
    · simpa using e1
  simp only [List.getElem_toArray, List.getElem_cons_zero] at hn0 hs0
  refine ⟨cs1[0], congrArg Value.agg e2, ?_⟩
  have tr : ∀ {b0 b1 o : Nat} {u : Value}, q b0 b1 → Plnv u → w.cell? ⟨b0, o, none⟩ = some u → w1.cell? ⟨b1, o, none⟩ = some u := fun hb hp hu => by
    obtain ⟨c, e, f, k1, k2⟩ := cell_of hu
    obtain ⟨c1, f1, k3, _, k4⟩ := hq _ _ hb c e f k1
    exact cell_is k3 (k4 _ _ k2 hp)
  generalize cs1[0] = v1 at hn0 hs0
  rcases hs with ⟨e, p, c, rfl⟩ | ⟨b0, off, c, rfl, hc, k⟩
  · cases p with
    | none =>
      rw [hn0 _ _ rfl, e]
      exact ⟨.inl ⟨rfl, _, _, rfl⟩, trivial⟩
    | some x =>
      obtain ⟨a1, h1, h2, _⟩ := hs0 _ _ _ rfl
      rw [h1, e]
      exact ⟨.inl ⟨rfl, _, _, rfl⟩, h2⟩
  · obtain ⟨a1, h1, hlt, h2⟩ := hs0 _ _ _ rfl
    rw [h1]
    generalize Plain.mergeR a b = L at *
    by_cases h0 : L.length = 0
    · have : L = [] := List.length_eq_zero_iff.1 h0
      subst this
      exact ⟨.inl ⟨rfl, _, _, rfl⟩, hlt⟩
    · have hb := h2.resolve_left h0
      refine ⟨.inr ⟨a1, off, c, rfl, hc, fun j hj => ?_⟩, hlt⟩
      obtain ⟨k0, k1, k2, k3, k4⟩ := k j hj
      exact ⟨tr hb trivial k0, tr hb trivial k1, tr hb trivial k2, tr hb trivial k3, tr hb trivial k4⟩

theorem own_slv {w : World} {B T : Nat} {v : Value} {l : List Plain.En} (h : OwnN w B T v l) : Slv w.heap.size v := by
  have h' : w.ownsRow B T 5 v l.length (evals l) := h
  rcases h'.2 with ⟨e, _⟩ | ⟨g, cap, cur, e, _, hb, _⟩
  · rw [e]; trivial
  · rw [e]; exact (Array.getElem?_eq_some_iff.1 hb).1

variable [Shift]
theorem tell_mi (a b : List Plain.En) (c s : Nat) (ts : Array Value) (r : Value) (w : World) (hz : ts.size = 18) (h2 : ts[2]? = some (.chan (some c))) (h6 : ts[6]? = some r) (h7 : ts[7]? = some (.int .i64 (Plain.mergeE a b : Nat)))
    (hO : OwnN w s 41 r (Plain.mergeR a b)) : MI Try.prog S0 V0 (.wk c s (specM a b)) ⟨none, none, []⟩ (bare 65 ts) [] [.code code1] [] w := by
  obtain ⟨p, cc, rfl⟩ := hO.form
  rw [code1_is]
  refine MI.ctl (k1 := [.inRegion ops1 [0, 1, 2, 3, 4]]) (fun _ _ _ _ _ => stepG_region) ?_
  have ev : ∀ {t : Array Value} {i : Nat} {v : Value}, t[i]? = some v → Act.eval ⟨t, []⟩ (.tmp i) = v := fun {t i v} h => by
    show t.getD i undef = v
    rw [Array.getD_eq_getD_getElem?, h]
    rfl
  have pz : ∀ (t : Array Value) (d : Nat) (v : Value), (putT t (some d) v).size = t.size := fun t d v => by simp [putT, Act.put]
  refine MI.move (o := ops1[0]'(by decide)) rfl (.inl rfl) rfl rfl fun U1 => ?_
  show MI _ _ _ _ _ (bare 65 (putT ts (some 14) (Act.eval ⟨ts, []⟩ (.tmp 2)))) _ _ _ _
  rw [ev h2]
  obtain ⟨t1, ht1⟩ : ∃ t1, t1 = putT ts (some 14) (.chan (some c)) := ⟨_, rfl⟩
  rw [← ht1]
  have z1 : t1.size = 18 := by rw [ht1, pz]; exact hz
  have a14 : t1[14]? = some (.chan (some c)) := by rw [ht1, put_get (by omega)]; simp
  have a6 : t1[6]? = some (.slice p (Plain.mergeR a b).length cc) := by rw [ht1, put_get (by omega)]; simpa using h6
  have a7 : t1[7]? = some (.int .i64 (Plain.mergeE a b : Nat)) := by rw [ht1, put_get (by omega)]; simpa using h7
  clear ht1 h2 h6 h7
  refine MI.move (o := ops1[1]'(by decide)) rfl (.inl rfl) rfl rfl fun U2 => ?_
  show MI _ _ _ _ _ (bare 65 (putT t1 (some 15) (Act.eval ⟨t1, []⟩ (.tmp 6)))) _ _ _ _
  rw [ev a6]
  obtain ⟨t2, ht2⟩ : ∃ t2, t2 = putT t1 (some 15) (.slice p (Plain.mergeR a b).length cc) := ⟨_, rfl⟩
  rw [← ht2]
  have z2 : t2.size = 18 := by rw [ht2, pz]; exact z1
  have b14 : t2[14]? = some (.chan (some c)) := by rw [ht2, put_get (by omega)]; simpa using a14
  have b15 : t2[15]? = some (.slice p (Plain.mergeR a b).length cc) := by rw [ht2, put_get (by omega)]; simp
  have b7 : t2[7]? = some (.int .i64 (Plain.mergeE a b : Nat)) := by rw [ht2, put_get (by omega)]; simpa using a7
  clear ht2
  refine MI.move (o := ops1[2]'(by decide)) rfl (.inl rfl) rfl rfl fun U3 => ?_
  show MI _ _ _ _ _ (bare 65 (putT t2 (some 16) (Act.eval ⟨t2, []⟩ (.tmp 7)))) _ _ _ _
  rw [ev b7]
  obtain ⟨t3, ht3⟩ : ∃ t3, t3 = putT t2 (some 16) (.int .i64 (Plain.mergeE a b : Nat)) := ⟨_, rfl⟩
  rw [← ht3]
  have z3 : t3.size = 18 := by rw [ht3, pz]; exact z2
  have c14 : t3[14]? = some (.chan (some c)) := by rw [ht3, put_get (by omega)]; simpa using b14
  have c15 : t3[15]? = some (.slice p (Plain.mergeR a b).length cc) := by rw [ht3, put_get (by omega)]; simpa using b15
  have c16 : t3[16]? = some (.int .i64 (Plain.mergeE a b : Nat)) := by rw [ht3, put_get (by omega)]; simp
  clear ht3
  obtain ⟨wc, hwc⟩ : ∃ wc, wc = onT (onT (onT w U1) U2) U3 := ⟨_, rfl⟩
  have hO' : OwnN wc s 41 (.slice p (Plain.mergeR a b).length cc) (Plain.mergeR a b) := by rw [hwc]; exact hO
  rw [← hwc]
  clear hO hwc
  refine MI.op (o := ops1[3]'(by decide)) (fun _ => some (.agg #[.slice p (Plain.mergeR a b).length cc, .int .i64 (Plain.mergeE a b : Nat)])) (fun T => retape wc T) rfl rfl (by kernel_rfl) (fun T => run_build98 _ _ rfl (ev c15) (ev c16)) fun T => ?_
  show MI _ _ _ _ _ (bare 65 (putT t3 (some 17) (.agg #[.slice p (Plain.mergeR a b).length cc, .int .i64 (Plain.mergeE a b : Nat)]))) _ _ _ _
  obtain ⟨t4, ht4⟩ : ∃ t4, t4 = putT t3 (some 17) (.agg #[.slice p (Plain.mergeR a b).length cc, .int .i64 (Plain.mergeE a b : Nat)]) := ⟨_, rfl⟩
  rw [← ht4]
  have d14 : t4[14]? = some (.chan (some c)) := by rw [ht4, put_get (by omega)]; simpa using c14
  have d17 : t4[17]? = some (.agg #[.slice p (Plain.mergeR a b).length cc, .int .i64 (Plain.mergeE a b : Nat)]) := by rw [ht4, put_get (by omega)]; simp
  clear ht4
  have hO2 : OwnN (retape wc T) s 41 (.slice p (Plain.mergeR a b).length cc) (Plain.mergeR a b) := hO'
  refine MI.snd (o := ops1[4]'(by decide)) (x := .tmp 14) (y := .tmp 17) rfl rfl rfl rfl rfl (ev d14) (ev d17) ⟨_, rfl, hO2.seg.1, own_slv hO2⟩ (fun i hi => ?_) fun t' => ⟨4, quits_fn (fn := Try.f65) Try.func65 rfl⟩
  have : i = 0 ∨ i = 1 := by simp at hi; omega
  rcases this with rfl | rfl
  · right
    simp only [List.getElem_toArray, List.getElem_cons_zero]
    cases p with
    | none => exact .inl ⟨_, _, rfl⟩
    | some x =>
      refine .inr ⟨x, _, cc, rfl, ?_⟩
      by_cases h0 : 0 < (Plain.mergeR a b).length
      · obtain ⟨g, c', e, hB, _⟩ := hO2.at h0
        cases e
        exact .inr hB
      · exact .inl (by omega)
  · left
    simp [Plnv]

/-- What a worker does. -/
theorem worker_mi (hP : OkP Try.prog S0 V0) (va vb : Value) (a b : List Plain.En) (c : Nat) (hla : a.length ≤ 9223372036854775807) (hlb : b.length ≤ 9223372036854775807) (w : World) (sa : SegN w va a) (ya : Lies w.heap.size va) (sb : SegN w vb b) (yb : Lies w.heap.size vb) :
    MI Try.prog S0 V0 (.wk c w.heap.size (specM a b)) ⟨none, none, []⟩ (bare 65 #[va, vb, .chan (some c), undef, undef, undef, undef, undef, undef, undef, undef, undef, undef, undef, undef, undef, undef, undef]) [] [.code (.seq code0 code1)] [] w :=
  two_mi hP va vb a b c hla hlb w sa ya sb yb fun ts r w' hz h2 h6 h7 hO => tell_mi a b c w.heap.size ts r w' hz h2 h6 h7 hO
end Go.Proofs.Ytcobehkadhcjiaa

/-
  crew.mergePairs: its code, piece by piece; the region that ends in a go statement.
-/
namespace Go.Proofs.Ytcobehkadhcjiaa
open Go Go.Conc Go.RowKit Go.Sort

noncomputable def seqL : Code → Code | .seq a _ => a | c => c
noncomputable def seqR : Code → Code | .seq _ b => b | c => c
noncomputable def blkC : Code → Code | .block _ c => c | c => c
noncomputable def lopC : Code → Code | .loop c => c | c => c
noncomputable def opsC : Code → Array Oper | .region _ o _ => o | _ => #[]
noncomputable def body30 : Code := Try.f30.body.getD .skip
noncomputable def loop1 : Code := seqR (seqL (seqR (seqR body30)))
noncomputable def round1 : Code := lopC (blkC loop1)
noncomputable def pair1 : Code := blkC (seqL (seqR round1))
noncomputable def code6 : Code := seqL (seqR pair1)
noncomputable def ops6 : Array Oper := opsC code6
theorem code6_is : code6 = .region 6 ops6 true := rfl
theorem ops6_size : ops6.size = 11 := by kernel_rfl
theorem ops6_sink : Region.sinkB .any ops6 10 = true := by kernel_rfl
theorem mixed : Try.prog.follows .mixedOrders = true := by kernel_rfl

theorem run6_2 (e : Operand → Value) (w : World) (i : Int) (h : e (.tmp 20) = .int .i64 i) (hc : e (.const (.int .i64 1)) = .int .i64 1) (hw : IntKind.i64.wrap (i - 1) = i - 1) : (execOp e (ops6[2]'(by rw [ops6_size]; decide))).run Try.prog w = .ok (.value (.int .i64 (i - 1))) w := by
  show (execOp e { dst := some 21, op := Op.binOp BinOp.sub 3 (Operand.tmp 20) (Operand.const (Value.int IntKind.i64 1)) 3, type := 3, pos := "crew.go:64", after := #[{ on := 1, ground := Ground.data }], guard := none }).run Try.prog w = _
  unfold execOp
  simp only [h, hc]
  simp [go_sem, hw]

theorem run6_ix (e : Operand → Value) (w : World) (b off n cap i : Nat) {x y : Operand} {d : Option Tmp} {ps : String} {af : Array Edge} (h1 : e x = .slice (some ⟨b, off, none⟩) n cap) (h2 : e y = .int .i64 i) (hi : i < n) :
    (execOp e { dst := d, op := Op.indexAddr 29 x y, type := 0, pos := ps, after := af, guard := none }).run Try.prog w = .ok (.value (.pointer (some ⟨b, off + i, none⟩))) w := by
  have hu : Try.prog.underlying 29 = some (.slice (Try.prog.elem 29)) := by kernel_rfl
  have hs : (Try.prog.info? (Try.prog.elem 29)).map (·.size) = some 1 := by kernel_rfl
  have hz : (sizeOf (Try.prog.elem 29)).run Try.prog w = .ok 1 w := by
    cases hi' : Try.prog.info? (Try.prog.elem 29) with
    | none => rw [hi'] at hs; cases hs
    | some ie =>
      rw [hi'] at hs
      simp only [Option.map_some, Option.some.injEq] at hs
      simp [sizeOf, typeInfo, hi', hs]
  unfold execOp
  simp only [h1, h2, Sem.run_bind]
  rw [run_indexAt_slice (P := Try.prog) (h := hu), if_pos ⟨by omega, by omega⟩, hz]
  simp only [Result.andThen_ok, Int.toNat_natCast, Nat.mul_one, Addr.add]
  by_cases i0 : i = 0
  · subst i0; rfl
  · rw [if_neg i0]; rfl
theorem run6_ld (e : Operand → Value) (w : World) (a : Addr) (v : Value) {x : Operand} {d : Option Tmp} {ps : String} {af : Array Edge} (h1 : e x = .pointer (some a)) (h2 : w.cell? a = some v) :
    (execOp e { dst := d, op := Op.load 30 x, type := 30, pos := ps, after := af, guard := none }).run Try.prog w = .ok (.value v) w := by
  unfold execOp
  simp only [h1]
  simp [go_sem, h2]

theorem ops6_low : ((List.range 11).all fun i => match ops6[i]? with | some o => o.after.all (fun e => !Region.binds .any e || decide (e.on < i)) | none => true) = true := by kernel_rfl
theorem ops6_lt : ∀ i o, ops6[i]? = some o → ∀ e ∈ o.after, Region.binds .any e = true → e.on < i := fun i o ho e he hb => by
  have hi : i < 11 := by have := (Array.getElem?_eq_some_iff.1 ho).1; rw [ops6_size] at this; exact this
  have := List.all_eq_true.1 ops6_low i (List.mem_range.2 hi)
  rw [ho] at this
  have := Array.all_eq_true_iff_forall_mem.1 this e he
  simpa [hb] using this
theorem ops6_ok (i : Nat) (hi : i < 10) : ∃ o, ops6[i]? = some o ∧ o.dst = some (19 + i) ∧ o.guard = none ∧ okOp Try.prog S0 o.op = true := by
  have : i = 0 ∨ i = 1 ∨ i = 2 ∨ i = 3 ∨ i = 4 ∨ i = 5 ∨ i = 6 ∨ i = 7 ∨ i = 8 ∨ i = 9 := by omega
  rcases this with rfl | rfl | rfl | rfl | rfl | rfl | rfl | rfl | rfl | rfl <;> exact ⟨_, rfl, rfl, rfl, by kernel_rfl⟩

def vals6 (l0 va vb : Value) (b off i c : Nat) : Nat → Value
  | 0 | 5 => l0
  | 1 | 6 => .int .i64 i
  | 2 => .int .i64 ((i : Int) - 1)
  | 3 => .pointer (some ⟨b, off + (i - 1), none⟩)
  | 4 => va
  | 7 => .pointer (some ⟨b, off + i, none⟩)
  | 8 => vb
  | 9 => .chan (some c)
  | _ => undef

theorem ev_at {t : Array Value} {i : Nat} {v : Value} (h : t[i]? = some v) : Act.eval ⟨t, []⟩ (.tmp i) = v := by
  show t.getD i undef = v
  rw [Array.getD_eq_getD_getElem?, h]
  rfl
theorem run_move {P : Program} {e : Operand → Value} {w : World} {o : Oper} {x : Operand} {v : Value} (h : o.op = .move x) (hv : e x = v) : (execOp e o).run P w = .ok (.value v) w := by
  unfold execOp
  rw [h]
  simp only [hv]
  rfl

theorem run6 (t : Array Value) (va vb : Value) (b off n cap i c : Nat) (w : World) (h0 : t[0]? = some (.slice (some ⟨b, off, none⟩) n cap)) (h5 : t[5]? = some (.int .i64 i)) (h6 : t[6]? = some (.chan (some c))) (hi : 1 ≤ i) (hin : i < n) (hn : n ≤ 9223372036854775807)
    (ha : w.cell? ⟨b, off + (i - 1), none⟩ = some va) (hb : w.cell? ⟨b, off + i, none⟩ = some vb) :
    ∀ j, j < 10 → ∀ o, ops6[j]? = some o → ∀ t' : Array Value, t'.size = t.size → (∀ s, (∀ j, j < 10 → 19 + j ≠ s) → t'[s]? = t[s]?) → (∀ k, k < 10 → Region.waitsFor .any ops6 j k = true → t'[19 + k]? = some (vals6 (.slice (some ⟨b, off, none⟩) n cap) va vb b off i c k)) →
      ∀ X, (execOp (Act.eval ⟨t', []⟩) o).run Try.prog (onT w X) = .ok (.value (vals6 (.slice (some ⟨b, off, none⟩) n cap) va vb b off i c j)) (onT w X) := by
  intro j hj o ho t' _ hs hd X
  have e0 : t'[0]? = some (.slice (some ⟨b, off, none⟩) n cap) := by rw [hs 0 (by intro j _; omega)]; exact h0
  have e5 : t'[5]? = some (.int .i64 i) := by rw [hs 5 (by intro j _; omega)]; exact h5
  have e6 : t'[6]? = some (.chan (some c)) := by rw [hs 6 (by intro j _; omega)]; exact h6
  have : j = 0 ∨ j = 1 ∨ j = 2 ∨ j = 3 ∨ j = 4 ∨ j = 5 ∨ j = 6 ∨ j = 7 ∨ j = 8 ∨ j = 9 := by omega
  rcases this with rfl | rfl | rfl | rfl | rfl | rfl | rfl | rfl | rfl | rfl <;> obtain rfl := Option.some.inj ho
  · exact run_move rfl (ev_at e0)
  · exact run_move rfl (ev_at e5)
  · have := hd 1 (by omega) (by kernel_rfl)
    exact run6_2 _ _ _ (ev_at this) rfl (by rw [IntKind.wrap_i64]; omega)
  · have h1 := hd 0 (by omega) (by kernel_rfl)
    have h2 := hd 2 (by omega) (by kernel_rfl)
    have e2 : vals6 (.slice (some ⟨b, off, none⟩) n cap) va vb b off i c 2 = .int .i64 ((i - 1 : Nat) : Int) := by
      show Value.int .i64 ((i : Int) - 1) = _
      congr 1
      omega
    rw [e2] at h2
    exact run6_ix _ _ b off n cap (i - 1) (ev_at h1) (ev_at h2) (by omega)
  · have h1 := hd 3 (by omega) (by kernel_rfl)
    exact run6_ld _ _ _ _ (ev_at h1) ha
  · exact run_move rfl (ev_at e0)
  · exact run_move rfl (ev_at e5)
  · have h1 := hd 5 (by omega) (by kernel_rfl)
    have h2 := hd 6 (by omega) (by kernel_rfl)
    exact run6_ix _ _ b off n cap i (ev_at h1) (ev_at h2) hin
  · have h1 := hd 7 (by omega) (by kernel_rfl)
    exact run6_ld _ _ _ _ (ev_at h1) hb
  · exact run_move rfl (ev_at e6)
end Go.Proofs.Ytcobehkadhcjiaa

/-
  crew.mergePairs: a pair is handed to a worker.
-/
namespace Go.Proofs.Ytcobehkadhcjiaa
open Go Go.Conc Go.RowKit Go.Sort

theorem go65 (a : Act) (w : World) (es : Array Event) : (execOp a.eval (ops6[10]'(by rw [ops6_size]; decide))).run Try.prog w = .ok (.spawn { target := .fn (.func 65) #[], args := #[Operand.tmp 23, .tmp 27, .tmp 28].map a.eval }) w ∧
    (execOp a.eval (ops6[10]'(by rw [ops6_size]; decide))).events Try.prog w es = es := by
  have e0 : a.eval (.func 65) = .func (.func 65) #[] #[] := rfl
  constructor
  · show (do let d ← resolve a.eval { callee := Callee.value (Operand.func 65), args := #[Operand.tmp 23, Operand.tmp 27, Operand.tmp 28], argTypes := #[30, 30, 114] } 0; pure (Next.spawn d) : Sem Next).run Try.prog w = _
    simp [resolve, Deferred.ofValue, e0]
  · show (do let d ← resolve a.eval { callee := Callee.value (Operand.func 65), args := #[Operand.tmp 23, Operand.tmp 27, Operand.tmp 28], argTypes := #[30, 30, 114] } 0; pure (Next.spawn d) : Sem Next).events Try.prog w es = _
    simp [resolve, Deferred.ofValue, e0]

theorem name65 : (Try.f65.name == "runtime.NumGoroutine") = false := by kernel_rfl
theorem body65 : Try.f65.body = some (.seq code0 code1) := rfl

variable [Shift]
omit [Shift] in
theorem frozen_heap (σ : Sg) (w : World) (X : Tape') : (frozenW σ (onT w X)).heap = (frozenW σ w).heap := by
  unfold frozenW
  cases σ.ph <;> rfl
theorem pair_go (hP : OkP Try.prog S0 V0) {post : Value → World → Prop} {σ : Sg} {k : List Item} {cs : List Frame} (t : Array Value) (va vb : Value) (a b : List Plain.En) (bk off n cap i c : Nat) (w : World) (hz : t.size = 61)
    (h0 : t[0]? = some (.slice (some ⟨bk, off, none⟩) n cap)) (h5 : t[5]? = some (.int .i64 i)) (h6 : t[6]? = some (.chan (some c))) (hi : 1 ≤ i) (hin : i < n) (hn : n ≤ 9223372036854775807)
    (ca : w.cell? ⟨bk, off + (i - 1), none⟩ = some va) (cb : w.cell? ⟨bk, off + i, none⟩ = some vb) (hid : σ.idle = some c)
    (hla : a.length ≤ 9223372036854775807) (hlb : b.length ≤ 9223372036854775807) (sa : SegN (frozenW σ w) va a) (ya : Lies (frozenW σ w).heap.size va) (za : Slv (frozenW σ w).heap.size va) (sb : SegN (frozenW σ w) vb b) (yb : Lies (frozenW σ w).heap.size vb) (zb : Slv (frozenW σ w).heap.size vb)
    (K : ∀ (t' : Array Value) X, t'.size = 61 → (∀ s, (∀ j, j < 10 → 19 + j ≠ s) → t'[s]? = t[s]?) →
      MI Try.prog S0 V0 (.main post) ⟨some (σ.ph.getD (onT w X)), none, σ.l ++ [(c, specM a b)]⟩ (bare 30 t') [] (.inRegion ops6 [] :: k) cs (match σ.ph with | some _ => onT w X | none => frz (onT w X))) :
    MI Try.prog S0 V0 (.main post) σ (bare 30 t) [] (.code code6 :: k) cs w := by
  rw [code6_is]
  refine MI.draw_reads mixed (n := 10) ops6_size ops6_sink ops6_lt (vals6 (.slice (some ⟨bk, off, none⟩) n cap) va vb bk off i c) (fun j => 19 + j) ops6_ok (fun i j _ _ e => Nat.add_left_cancel (n := 19) e) (fun j hj => (by omega : 19 + j < t.size))
    (run6 t va vb bk off n cap i c w h0 h5 h6 hi hin hn ca cb) fun t' X q1 q2 q3 => ?_
  have e23 : t'[23]? = some va := q3 4 (by omega)
  have e27 : t'[27]? = some vb := q3 8 (by omega)
  have e28 : t'[28]? = some (.chan (some c)) := q3 9 (by omega)
  have exs : (#[Operand.tmp 23, .tmp 27, .tmp 28] : Array Operand).map (Act.eval ⟨t', []⟩) = #[va, vb, .chan (some c)] := by
    simp [ev_at e23, ev_at e27, ev_at e28]
  have hf := frozen_heap σ w X
  refine MI.go (o := ops6[10]'(by rw [ops6_size]; decide)) (xs := #[.tmp 23, .tmp 27, .tmp 28]) (spec := specM a b) (fn := Try.f65) (code := .seq code0 code1) rfl rfl hid Try.func65 name65 body65 (by kernel_rfl) go65 ?_ (moves_specM a b) ?_ ?_
  · rw [exs, hf]
    intro v hv
    simp at hv
    rcases hv with rfl | rfl | rfl
    · exact za
    · exact zb
    · trivial
  · rw [exs, Try.ntmps65]
    exact worker_mi hP va vb a b c hla hlb _ (sa.heap hf) (by rw [hf]; exact ya) (sb.heap hf) (by rw [hf]; exact yb)
  · exact K t' X (by rw [q1]; exact hz) q2
end Go.Proofs.Ytcobehkadhcjiaa

/-
  Lists of entries in memory, world by world: nothing of them is turned by freezing, by thawing, by what others tell.
-/
namespace Go.Proofs.Ytcobehkadhcjiaa
open Go Go.Conc Go.RowKit Go.Sort

theorem cell_frz (w : World) (a : Addr) : (frz w).cell? a = w.cell? a := by
  unfold World.cell?
  rw [frz_heap]
  cases w.heap[a.block]? with
  | none => rfl
  | some o => cases o <;> rfl
theorem cell_thaw (w0 w1 : World) (a : Addr) : (thaw w0 w1).cell? a = w1.cell? a := by
  unfold World.cell?
  rw [thaw_heap]
  cases w1.heap[a.block]? with
  | none => rfl
  | some o =>
    cases o <;> simp only [Option.map_some, thawO] <;> cases hw : w0.heap[a.block]? <;> try rfl
    all_goals (rename_i u; cases u <;> rfl)

/-- A block but for what of it may be written. -/
def unf : Obj → Obj
  | .cells c e _ => .cells c e (0, 0)
  | o => o
/-- Below B all blocks are as they were, but for what of them may be written. -/
def Uf (B : Nat) (w w1 : World) : Prop := ∀ x, x < B → (w1.heap[x]?).map unf = (w.heap[x]?).map unf
/-- .. as they were. -/
def Ex (B : Nat) (w w1 : World) : Prop := ∀ x, x < B → w1.heap[x]? = w.heap[x]?
theorem Ex.refl (B : Nat) (w : World) : Ex B w w := fun _ _ => rfl
theorem Ex.trans {B : Nat} {a b c : World} (h : Ex B a b) (k : Ex B b c) : Ex B a c := fun x hx => (k x hx).trans (h x hx)
theorem Ex.uf {B : Nat} {a b : World} (h : Ex B a b) : Uf B a b := fun x hx => by rw [h x hx]
theorem Uf.trans {B : Nat} {a b c : World} (h : Uf B a b) (k : Uf B b c) : Uf B a c := fun x hx => (k x hx).trans (h x hx)
theorem unf_frz (o : Obj) : unf (frzO o) = unf o := by cases o <;> rfl
theorem unf_thaw (o0 : Option Obj) (o : Obj) : unf (thawO o0 o) = unf o := by
  cases o0 with
  | none => cases o <;> rfl
  | some u => cases u <;> cases o <;> rfl
theorem uf_frz (B : Nat) (w : World) : Uf B w (frz w) := fun x _ => by
  rw [frz_heap, Option.map_map]
  cases w.heap[x]? with
  | none => rfl
  | some o => exact congrArg some (unf_frz o)
theorem uf_thaw (B : Nat) (w0 w1 : World) : Uf B w1 (thaw w0 w1) := fun x _ => by
  rw [thaw_heap, Option.map_map]
  cases w1.heap[x]? with
  | none => rfl
  | some o => exact congrArg some (unf_thaw _ o)
/-- What was but frozen is as it was. -/
theorem thaw_ex {B : Nat} {w0 w : World} (h : Uf B w0 w) : Ex B w0 (thaw w0 w) := fun x hx => by
  have := h x hx
  rw [thaw_heap]
  cases h0 : w0.heap[x]? with
  | none =>
    rw [h0] at this
    cases h1 : w.heap[x]? with
    | none => rfl
    | some o => rw [h1] at this; cases this
  | some u =>
    rw [h0] at this
    cases h1 : w.heap[x]? with
    | none => rw [h1] at this; cases this
    | some o =>
      rw [h1] at this
      simp only [Option.map_some, Option.some.injEq] at this ⊢
      cases u <;> cases o <;> simp_all [unf, thawO]

/-- What lay there lies there. -/
structure Keeps (w w1 : World) : Prop where
  size : w.heap.size ≤ w1.heap.size
  cell : ∀ a : Addr, a.block < w.heap.size → w1.cell? a = w.cell? a
  uf : Uf w.heap.size w w1
theorem Keeps.refl (w : World) : Keeps w w := ⟨Nat.le_refl _, fun _ _ => rfl, fun _ _ => rfl⟩
theorem Keeps.trans {a b c : World} (h : Keeps a b) (k : Keeps b c) : Keeps a c := ⟨Nat.le_trans h.size k.size, fun x hx => (k.cell x (Nat.lt_of_lt_of_le hx h.size)).trans (h.cell x hx), fun x hx => (k.uf x (Nat.lt_of_lt_of_le hx h.size)).trans (h.uf x hx)⟩
theorem Keeps.onT (w : World) (X : Tape') : Keeps w (onT w X) := ⟨Nat.le_refl _, fun _ _ => rfl, fun _ _ => rfl⟩
theorem Keeps.frz (w : World) : Keeps w (frz w) := ⟨by rw [frz_size]; exact Nat.le_refl _, fun a _ => cell_frz w a, uf_frz _ w⟩
theorem Keeps.thaw (w0 w1 : World) : Keeps w1 (thaw w0 w1) := ⟨by rw [thaw_size]; exact Nat.le_refl _, fun a _ => cell_thaw w0 w1 a, uf_thaw _ w0 w1⟩
theorem Keeps.thawL (w0 w1 : World) (l : List (Nat × Spec)) : Keeps w1 (wdL w0 w1 l) := by
  cases l with
  | nil => exact Keeps.thaw w0 w1
  | cons _ _ => exact Keeps.refl w1
theorem Keeps.of_old {w w1 : World} (hs : w.heap.size ≤ w1.heap.size) (h : ∀ a, a < w.heap.size → w1.heap[a]? = w.heap[a]?) : Keeps w w1 := ⟨hs, fun a ha => by unfold World.cell?; rw [h _ ha], fun x hx => by rw [h x hx]⟩
theorem Keeps.below {w w1 : World} (h : Below w.heap.size w w1) : Keeps w w1 := .of_old h.size h.block

theorem SegN.keep {w w1 : World} {v : Value} {l : List Plain.En} (s : SegN w v l) (h : Keeps w w1) : SegN w1 v l := by
  rcases s with ⟨e, p, c, k⟩ | ⟨b, off, c, e, hc, k⟩
  · exact .inl ⟨e, p, c, k⟩
  · refine .inr ⟨b, off, c, e, hc, fun j hj => ?_⟩
    have hb := (k j hj).lt
    obtain ⟨k0, k1, k2, k3, k4⟩ := k j hj
    exact ⟨by rw [h.cell _ hb]; exact k0, by rw [h.cell _ hb]; exact k1, by rw [h.cell _ hb]; exact k2, by rw [h.cell _ hb]; exact k3, by rw [h.cell _ hb]; exact k4⟩
theorem Slv.mono {s s' : Nat} (hs : s ≤ s') {v : Value} (h : Slv s v) : Slv s' v := by
  cases v <;> first | exact h | skip
  rename_i a n c
  cases a with
  | none => trivial
  | some a => exact Nat.lt_of_lt_of_le h hs

/-- One list of entries. -/
structure EnS (w : World) (v : Value) (l : List Plain.En) : Prop where
  seg : SegN w v l
  lies : Lies w.heap.size v
  slv : Slv w.heap.size v
theorem EnS.keep {w w1 : World} {v : Value} {l : List Plain.En} (s : EnS w v l) (h : Keeps w w1) : EnS w1 v l := ⟨s.seg.keep h, s.lies.mono h.size, s.slv.mono h.size⟩
/-- Lists of entries. -/
structure LsI (w : World) (b off n : Nat) (ls : List (List Plain.En)) : Prop where
  len : ls.length = n
  at_ : ∀ j, j < n → ∃ v, w.cell? ⟨b, off + j, none⟩ = some v ∧ EnS w v (ls.getD j [])
theorem LsI.keep {w w1 : World} {b off n : Nat} {ls : List (List Plain.En)} (s : LsI w b off n ls) (h : Keeps w w1) : LsI w1 b off n ls := ⟨s.len, fun j hj => by
  obtain ⟨v, k1, k2⟩ := s.at_ j hj
  exact ⟨v, by rw [h.cell _ (World.block_lt_of_cell? (w := w) (h := k1))]; exact k1, k2.keep h⟩⟩
end Go.Proofs.Ytcobehkadhcjiaa

/-
  crew.mergePairs: a channel is made.
-/
namespace Go.Proofs.Ytcobehkadhcjiaa
open Go Go.Conc Go.RowKit Go.Sort

noncomputable def code5 : Code := seqL pair1
noncomputable def ops5 : Array Oper := opsC code5
theorem code5_is : code5 = .region 5 ops5 false := rfl
theorem ops5_size : ops5.size = 2 := by kernel_rfl
theorem chan5 (a : Act) (w : World) (es : Array Event) : (execOp a.eval (ops5[0]'(by rw [ops5_size]; decide))).run Try.prog w = .ok (.value (.chan (some w.heap.size))) (w.alloc (.chan 0 #[] false 0 0 false)) ∧
    (execOp a.eval (ops5[0]'(by rw [ops5_size]; decide))).events Try.prog w es = es := by
  have e0 : a.eval (.const (.int .i64 0)) = .int .i64 0 := rfl
  have hp : ops5[0]'(by rw [ops5_size]; decide) = { dst := some 18, op := Op.makeChan 95 (Operand.const (Value.int IntKind.i64 0)), type := 95, pos := "crew.go:63", after := #[], guard := none } := rfl
  rw [hp]
  have hu := Try.underlying95
  obtain ⟨i, hi⟩ : ∃ i, Try.prog.info? 98 = some i := Option.isSome_iff_exists.1 (by kernel_rfl)
  have r1 := run_makeChan (P := Try.prog) (t := 95) (w := w) hu hi .i64 0 (by omega) (by omega)
  have r2 := events_makeChan (P := Try.prog) (t := 95) (w := w) hu hi .i64 0 (by omega) (by omega) es
  constructor
  · unfold execOp
    simp [go_sem]
    have r1' : (Instr.makeChan 95 (.int .i64 0)).run Try.prog w = .ok (.chan (some w.heap.size)) (w.alloc (.chan 0 #[] false 0 0 false)) := r1
    have e0' : a.eval (.const (.int .i64 0)) = .int .i64 0 := rfl
    first
      | (rw [r1']; rfl)
      | (rw [e0', r1']; rfl)
  · unfold execOp
    simp
    exact r2
end Go.Proofs.Ytcobehkadhcjiaa

/-
  crew.mergePairs: a round of its first loop, to behind the go statement.
-/
namespace Go.Proofs.Ytcobehkadhcjiaa
open Go Go.Conc Go.RowKit Go.Sort

variable [Shift]
omit [Shift] in
theorem putT_size (t : Array Value) (d : Nat) (v : Value) : (putT t (some d) v).size = t.size := by simp [putT, Act.put]

theorem chan_mi {post : Value → World → Prop} {ph : Option World} {l : List (Nat × Spec)} {k : List Item} {cs : List Frame} (t : Array Value) (w : World) (hz : t.size = 61)
    (K : ∀ (c : Nat) (t' : Array Value) U, t'.size = 61 → t'[6]? = some (.chan (some c)) → (∀ s, s ≠ 6 → s ≠ 18 → t'[s]? = t[s]?) → MI Try.prog S0 V0 (.main post) ⟨ph, some c, l⟩ (bare 30 t') [] k cs (onT w U)) :
    MI Try.prog S0 V0 (.main post) ⟨ph, none, l⟩ (bare 30 t) [] (.code code5 :: k) cs w := by
  rw [code5_is]
  refine MI.ctl (k1 := .inRegion ops5 [0, 1] :: k) (fun _ _ _ _ _ => stepG_region) ?_
  refine MI.chan (o := ops5[0]'(by rw [ops5_size]; decide)) rfl rfl chan5 fun c => ?_
  show MI _ _ _ _ _ (bare 30 (putT t (some 18) (.chan (some c)))) _ _ _ _
  have e18 : (putT t (some 18) (.chan (some c)))[18]? = some (.chan (some c)) := by rw [put_get (by omega)]; simp
  refine MI.move (o := ops5[1]'(by rw [ops5_size]; decide)) rfl (.inr rfl) rfl rfl fun U => ?_
  show MI _ _ _ _ _ (bare 30 (putT (putT t (some 18) (.chan (some c))) (some 6) (Act.eval ⟨putT t (some 18) (.chan (some c)), []⟩ (.tmp 18)))) _ _ _ _
  rw [ev_at e18]
  refine MI.ctl (k1 := k) (fun _ _ _ _ _ => stepG_region_end) ?_
  have z1 : (putT t (some 18) (.chan (some c))).size = 61 := by rw [putT_size]; exact hz
  refine K c _ U (by rw [putT_size]; exact z1) (by rw [put_get (by omega)]; simp) fun s h1 h2 => ?_
  rw [put_get (by omega), if_neg h1, put_get (by omega), if_neg h2]
end Go.Proofs.Ytcobehkadhcjiaa

/-
  crew: what is asked of the program.
-/
namespace Go.Proofs.Ytcobehkadhcjiaa
open Go Go.Conc

theorem find83 : Extern.find Try.f83 = some (Extern.SlicesOverlaps.overlaps Try.f83.params Try.f83.resultTypes) := by kernel_rfl
theorem hov : ∃ fn, Try.prog.funcs[83]? = some fn ∧ (fn.name == "runtime.NumGoroutine") = false ∧ fn.body = none ∧ Extern.findNext fn = none ∧ Extern.find fn = some (Extern.SlicesOverlaps.overlaps fn.params fn.resultTypes) := by
  have h1 : Extern.findNext Try.f83 = none := by
    have : (Extern.findNext Try.f83).isNone = true := by kernel_rfl
    simpa using this
  have h2 : Try.f83.body = none := by
    have : Try.f83.body.isNone = true := by kernel_rfl
    simpa using this
  exact ⟨Try.f83, Try.func83, by kernel_rfl, h2, h1, find83⟩
theorem no_ready : (Try.prog.funcs.all fun f => (f.body.map readies).all (fun l => l.isEmpty)) = true := by kernel_rfl
theorem hst : ∀ g, Try.prog.stepOf g = none := fun g => by
  unfold Program.stepOf
  rw [Array.findIdx?_eq_none_iff]
  intro f hf
  have := Array.all_eq_true_iff_forall_mem.1 no_ready f hf
  cases hb : f.body.map readies with
  | none => rfl
  | some l =>
    rw [hb] at this
    have hl : l = [] := by simpa using this
    subst hl
    rfl
theorem okP (n : Nat) (sh : Nat → Nat) : @OkP (shiftOf n sh) Try.prog S0 V0 := okp n sh hst hov
end Go.Proofs.Ytcobehkadhcjiaa

/-
  crew.mergePairs: what a worker tells is heard.
-/
namespace Go.Proofs.Ytcobehkadhcjiaa
open Go Go.Conc Go.RowKit Go.Sort

noncomputable def tail2 : Code := seqR (seqR (seqR body30))
noncomputable def loop2 : Code := seqR (seqL (seqR (seqR tail2)))
noncomputable def round2 : Code := lopC (blkC loop2)
noncomputable def hear2 : Code := blkC (seqL (seqR (seqR round2)))
noncomputable def code12 : Code := seqL hear2
noncomputable def code13 : Code := seqL (seqR hear2)
noncomputable def ops13 : Array Oper := opsC code13
theorem code13_is : code13 = .region 13 ops13 false := rfl
theorem ops13_size : ops13.size = 4 := by kernel_rfl
theorem ok13 : ops13.all (okO Try.prog S0 V0) = false := by kernel_rfl
theorem op40 : ops13[1]'(by rw [ops13_size]; decide) = { dst := some 40, op := Op.recv 95 (.tmp 39) false, type := 98, pos := "crew.go:71", after := #[{ on := 0, ground := Ground.data }], guard := none } := rfl

theorem recv13 : ∃ z, ∀ (e : Act) (w' : World) es, ∀ c, e.eval (.tmp 39) = .chan (some c) → (execOp e.eval (ops13[1]'(by rw [ops13_size]; decide))).run Try.prog w' = .ok (.comm #[rcase c z] true (.recv false)) w' ∧
    (execOp e.eval (ops13[1]'(by rw [ops13_size]; decide))).events Try.prog w' es = es := by
  rw [op40]
  have hu := Try.underlying95
  refine ⟨.agg #[.slice none 0 0, .int .i64 0], fun e w' es c h => ⟨?_, ?_⟩⟩
  · unfold execOp
    simp [h, rcase]
  · unfold execOp
    simp [h]
end Go.Proofs.Ytcobehkadhcjiaa

/-
  crew.mergePairs: what is heard is laid in a box.
-/
namespace Go.Proofs.Ytcobehkadhcjiaa
open Go Go.Conc Go.RowKit Go.Sort

theorem op41 : ops13[2]'(by rw [ops13_size]; decide) = { dst := some 11, op := (ops13[2]'(by rw [ops13_size]; decide)).op, type := (ops13[2]'(by rw [ops13_size]; decide)).type, pos := "crew.go:71", after := (ops13[2]'(by rw [ops13_size]; decide)).after, guard := none } := rfl
theorem alloc13 (e : Act) (w : World) : (execOp e.eval (ops13[2]'(by rw [ops13_size]; decide))).run Try.prog w = .ok (.value (.pointer (some ⟨w.heap.size, 0, none⟩))) (w.alloc (.cells #[.slice none 0 0, .int .i64 0] 98 (0, 0))) := by
  have ho : (ops13[2]'(by rw [ops13_size]; decide)).op = Op.alloc 98 := rfl
  unfold execOp
  rw [ho]
  simp [go_sem]
theorem store13 (e : Act) (w : World) (g : Nat) (p : Option Addr) (n c : Nat) (k : Int) (x y : Value) (h1 : e.eval (.tmp 11) = .pointer (some ⟨g, 0, none⟩)) (h2 : e.eval (.tmp 40) = .agg #[.slice p n c, .int .i64 k]) (hg : w.heap[g]? = some (.cells #[x, y] 98 (0, 0))) :
    (execOp e.eval (ops13[3]'(by rw [ops13_size]; decide))).run Try.prog w = .ok .skip ((w.setCell ⟨g, 0, none⟩ (.slice p n c)).setCell ⟨g, 1, none⟩ (.int .i64 k)) := by
  have ho : (ops13[3]'(by rw [ops13_size]; decide)).op = Op.store 98 (.tmp 11) (.tmp 40) := rfl
  unfold execOp
  rw [ho]
  simp only [h1, h2]
  have c0 : w.cell? ⟨g, 0, none⟩ = some x := cell_is hg rfl
  have f0 : w.frozen? ⟨g, 0, none⟩ = false := by simp [World.frozen?, hg]
  have hg2 : (w.setCell ⟨g, 0, none⟩ (.slice p n c)).heap[g]? = some (.cells #[.slice p n c, y] 98 (0, 0)) := by
    simp [World.setCell, Array.getElem?_modify, hg]
  have c1 : (w.setCell ⟨g, 0, none⟩ (.slice p n c)).cell? ⟨g, 1, none⟩ = some y := cell_is hg2 rfl
  have f1 : (w.setCell ⟨g, 0, none⟩ (.slice p n c)).frozen? ⟨g, 1, none⟩ = false := by simp [World.frozen?, hg2]
  simp [go_sem, c0, f0, c1, f1]
end Go.Proofs.Ytcobehkadhcjiaa

/-
  crew.mergePairs: a worker is heard.
-/
namespace Go.Proofs.Ytcobehkadhcjiaa
open Go Go.Conc Go.RowKit Go.Sort

theorem lies_of_slv {s : Nat} {v : Value} (h : Slv s v) : Lies s v := fun a n c e _ => by
  subst e
  exact h
theorem thawL_new (w0 w1 : World) (l : List (Nat × Spec)) (x : Nat) (h : w0.heap.size ≤ x) : (wdL w0 w1 l).heap[x]? = w1.heap[x]? := by
  cases l with
  | cons _ _ => rfl
  | nil =>
    show (thaw w0 w1).heap[x]? = _
    rw [thaw_heap, Array.getElem?_eq_none h]
    cases w1.heap[x]? with
    | none => rfl
    | some o => cases o <;> rfl

variable [Shift]
theorem hear_mi {post : Value → World → Prop} {w0 : World} {idle : Option Nat} {c : Nat} {l : List (Nat × Spec)} {k : List Item} {cs : List Frame} (a b : List Plain.En) (t : Array Value) (w : World) (hz : t.size = 61) (h10 : t[10]? = some (.chan (some c)))
    (K : ∀ (t' : Array Value) (w' : World) (r : Value) (g : Nat), t'.size = 61 → (∀ s, s ≠ 11 → s ≠ 39 → s ≠ 40 → t'[s]? = t[s]?) → t'[11]? = some (.pointer (some ⟨g, 0, none⟩)) → w.heap.size ≤ g → w'.heap[g]? = some (.cells #[r, .int .i64 (Plain.mergeE a b : Nat)] 98 (0, 0)) →
      EnS w' r (Plain.mergeR a b) → (Plain.mergeR a b = [] ∨ ∀ x, r.ownBlock = some x → w.heap.size ≤ x) → Keeps w w' → (∀ x, w0.heap.size ≤ x → x < w.heap.size → w'.heap[x]? = w.heap[x]?) → (l ≠ [] → Ex w.heap.size w w') → (l = [] → Ex w.heap.size (thaw w0 w) w') → MI Try.prog S0 V0 (.main post) ⟨phL w0 l, idle, l⟩ (bare 30 t') [] k cs w') :
    MI Try.prog S0 V0 (.main post) ⟨some w0, idle, (c, specM a b) :: l⟩ (bare 30 t) [] (.code code13 :: k) cs w := by
  rw [code13_is]
  refine MI.ctl (k1 := .inRegion ops13 [0, 1, 2, 3] :: k) (fun _ _ _ _ _ => stepG_region) ?_
  refine MI.move (o := ops13[0]'(by rw [ops13_size]; decide)) rfl (.inl rfl) rfl rfl fun U => ?_
  show MI _ _ _ _ _ (bare 30 (putT t (some 39) (Act.eval ⟨t, []⟩ (.tmp 10)))) _ _ _ _
  rw [ev_at h10]
  obtain ⟨t1, ht1⟩ : ∃ t1, t1 = putT t (some 39) (.chan (some c)) := ⟨_, rfl⟩
  rw [← ht1]
  have z1 : t1.size = 61 := by rw [ht1, putT_size]; exact hz
  have e39 : t1[39]? = some (.chan (some c)) := by rw [ht1, put_get (by omega)]; simp
  have o1 : ∀ s, s ≠ 39 → t1[s]? = t[s]? := fun s hs => by rw [ht1, put_get (by omega), if_neg hs]
  clear ht1
  refine MI.recv (o := ops13[1]'(by rw [ops13_size]; decide)) (ty := 95) (x := .tmp 39) rfl rfl rfl rfl (ev_at e39) (let ⟨z, hz'⟩ := recv13; ⟨z, fun e w' es h => hz' e w' es c h⟩) fun w1 v1 hw1 hw2 _ _ hsp => ?_
  obtain ⟨⟨r, rfl, hs, hl⟩, hnw⟩ := hsp
  have hform : ∃ p n cc, r = .slice p n cc := by
    rcases hs with ⟨_, p, cc, e⟩ | ⟨bb, off, cc, e, _⟩
    · exact ⟨p, 0, cc, e⟩
    · exact ⟨_, _, cc, e⟩
  obtain ⟨p, n, cc, rfl⟩ := hform
  have hnew : Plain.mergeR a b = [] ∨ ∀ x, (Value.slice p n cc).ownBlock = some x → w.heap.size ≤ x := by
    rcases hs with ⟨e, _⟩ | ⟨bb, off, c1, e, _, _⟩
    · exact .inl e
    · cases e
      rcases hnw 0 (by simp) with q | ⟨_, _, q⟩ | ⟨a0, n0, c0, q, q1⟩
      · exact q.elim
      · cases q
      · cases q
        rcases q1 with q1 | q1
        · exact .inl (List.eq_nil_of_length_eq_zero q1)
        · refine .inr fun x hx => ?_
          cases hx
          exact q1
  show MI _ _ _ _ _ (bare 30 (putT t1 (some 40) (.agg #[.slice p n cc, .int .i64 (Plain.mergeE a b : Nat)]))) _ _ _ _
  obtain ⟨t2, ht2⟩ : ∃ t2, t2 = putT t1 (some 40) (.agg #[.slice p n cc, .int .i64 (Plain.mergeE a b : Nat)]) := ⟨_, rfl⟩
  rw [← ht2]
  have z2 : t2.size = 61 := by rw [ht2, putT_size]; exact z1
  have e40 : t2[40]? = some (.agg #[.slice p n cc, .int .i64 (Plain.mergeE a b : Nat)]) := by rw [ht2, put_get (by omega)]; simp
  have o2 : ∀ s, s ≠ 39 → s ≠ 40 → t2[s]? = t[s]? := fun s h1 h2 => by rw [ht2, put_get (by omega), if_neg h2]; exact o1 s h1
  clear ht2
  obtain ⟨wL, hwL⟩ : ∃ wL, wL = wdL w0 w1 l := ⟨_, rfl⟩
  have kL : Keeps w wL := (Keeps.of_old (w := w) hw1 hw2).trans (by rw [hwL]; exact Keeps.thawL w0 w1 l)
  have nL : ∀ x, w0.heap.size ≤ x → x < w.heap.size → wL.heap[x]? = w.heap[x]? := fun x h1 h2 => by rw [hwL, thawL_new w0 w1 l x h1]; exact hw2 x h2
  have xL : l ≠ [] → Ex w.heap.size w wL := fun hl x hx => by
    rw [hwL]
    cases l with
    | nil => exact absurd rfl hl
    | cons _ _ => exact hw2 x hx
  have xT : l = [] → Ex w.heap.size (thaw w0 w) wL := fun hl x hx => by
    rw [hwL, hl]
    show (thaw w0 w1).heap[x]? = _
    rw [thaw_heap, thaw_heap, hw2 x hx]
    rfl
  have sL : EnS wL (.slice p n cc) (Plain.mergeR a b) := by
    have : EnS w1 (.slice p n cc) (Plain.mergeR a b) := ⟨hs, lies_of_slv hl, hl⟩
    rw [hwL]
    exact this.keep (Keeps.thawL w0 w1 l)
  rw [← hwL]
  refine MI.op (o := ops13[2]'(by rw [ops13_size]; decide)) (fun _ => some (.pointer (some ⟨wL.heap.size, 0, none⟩))) (fun T => (retape wL T).alloc (.cells #[.slice none 0 0, .int .i64 0] 98 (0, 0))) rfl rfl (by kernel_rfl) (fun T => alloc13 _ _) fun T => ?_
  show MI _ _ _ _ _ (bare 30 (putT t2 (some 11) (.pointer (some ⟨wL.heap.size, 0, none⟩)))) _ _ _ _
  obtain ⟨t3, ht3⟩ : ∃ t3, t3 = putT t2 (some 11) (.pointer (some ⟨wL.heap.size, 0, none⟩)) := ⟨_, rfl⟩
  rw [← ht3]
  have z3 : t3.size = 61 := by rw [ht3, putT_size]; exact z2
  have e11 : t3[11]? = some (.pointer (some ⟨wL.heap.size, 0, none⟩)) := by rw [ht3, put_get (by omega)]; simp
  have e40' : t3[40]? = some (.agg #[.slice p n cc, .int .i64 (Plain.mergeE a b : Nat)]) := by rw [ht3, put_get (by omega)]; simpa using e40
  have o3 : ∀ s, s ≠ 11 → s ≠ 39 → s ≠ 40 → t3[s]? = t[s]? := fun s h0 h1 h2 => by rw [ht3, put_get (by omega), if_neg h0]; exact o2 s h1 h2
  clear ht3
  obtain ⟨wA, hwA⟩ : ∃ wA, wA = (retape wL T).alloc (.cells #[.slice none 0 0, .int .i64 0] 98 (0, 0)) := ⟨_, rfl⟩
  have hA : wA.heap = wL.heap.push (.cells #[.slice none 0 0, .int .i64 0] 98 (0, 0)) := by rw [hwA]; rfl
  have gA : wA.heap[wL.heap.size]? = some (.cells #[.slice none 0 0, .int .i64 0] 98 (0, 0)) := by rw [hA, Array.getElem?_push]; simp
  have oA : ∀ x, x < wL.heap.size → wA.heap[x]? = wL.heap[x]? := fun x hx => by rw [hA, Array.getElem?_push, if_neg (by omega)]
  rw [← hwA]
  refine MI.op (o := ops13[3]'(by rw [ops13_size]; decide)) (fun _ => none) (fun T => ((retape wA T).setCell ⟨wL.heap.size, 0, none⟩ (.slice p n cc)).setCell ⟨wL.heap.size, 1, none⟩ (.int .i64 (Plain.mergeE a b : Nat))) rfl rfl (by kernel_rfl) (fun T => store13 _ _ _ _ _ _ _ _ _ (ev_at e11) (ev_at e40') gA) fun T => ?_
  refine MI.ctl (k1 := k) (fun _ _ _ _ _ => stepG_region_end) ?_
  obtain ⟨wF, hwF⟩ : ∃ wF, wF = ((retape wA T).setCell ⟨wL.heap.size, 0, none⟩ (.slice p n cc)).setCell ⟨wL.heap.size, 1, none⟩ (.int .i64 (Plain.mergeE a b : Nat)) := ⟨_, rfl⟩
  have hF : wF.heap[wL.heap.size]? = some (.cells #[.slice p n cc, .int .i64 (Plain.mergeE a b : Nat)] 98 (0, 0)) := by
    have : (retape wA T).heap[wL.heap.size]? = some (.cells #[.slice none 0 0, .int .i64 0] 98 (0, 0)) := gA
    rw [hwF]
    simp [World.setCell, Array.getElem?_modify, this]
  have oF : ∀ x, x < wL.heap.size → wF.heap[x]? = wL.heap[x]? := fun x hx => by
    rw [hwF, Below.heap_setCell _ _ _ _ (by dsimp only; omega), Below.heap_setCell _ _ _ _ (by dsimp only; omega)]
    exact oA x hx
  have sF : wL.heap.size ≤ wF.heap.size := by have := (Array.getElem?_eq_some_iff.1 hF).1; omega
  have kF : Keeps wL wF := Keeps.of_old sF oF
  rw [← hwF]
  exact K t3 wF _ wL.heap.size z3 o3 e11 kL.size hF (sL.keep kF) hnew (kL.trans kF) (fun x h1 h2 => (oF x (Nat.lt_of_lt_of_le h2 kL.size)).trans (nL x h1 h2)) (fun hl x hx => (oF x (Nat.lt_of_lt_of_le hx kL.size)).trans (xL hl x hx)) (fun hl x hx => (oF x (Nat.lt_of_lt_of_le hx kL.size)).trans (xT hl x hx))
end Go.Proofs.Ytcobehkadhcjiaa

/-
  crew.mergePairs: the head of its first loop.
-/
namespace Go.Proofs.Ytcobehkadhcjiaa
open Go Go.Conc Go.RowKit Go.Sort

noncomputable def code3 : Code := seqL (seqL round1)
noncomputable def ops3 : Array Oper := opsC code3
theorem code3_is : code3 = .region 3 ops3 false := rfl
theorem ops3_size : ops3.size = 4 := by kernel_rfl
theorem len3 (e : Act) (w : World) (p : Option Addr) (n c : Nat) (h : e.eval (.tmp 13) = .slice p n c) : (execOp e.eval (ops3[2]'(by rw [ops3_size]; decide))).run Try.prog w = .ok (.value (goInt n)) w := by
  have ho : (ops3[2]'(by rw [ops3_size]; decide)).op = Op.call { callee := .builtin .len, args := #[.tmp 13], argTypes := #[29] } := rfl
  unfold execOp
  rw [ho]
  have h' : e.tmps[13]?.getD undef = .slice p n c := by
    rw [← h]
    show _ = e.tmps.getD 13 undef
    rw [Array.getD_eq_getD_getElem?]
  have hu : Try.prog.underlying 29 = some (.slice (Try.prog.elem 29)) := by kernel_rfl
  simp [go_sem, resolve, invoke, builtin, h', run_len_slice (P := Try.prog) (h := hu)]
theorem lss3 (e : Act) (w : World) (i j : Int) (h1 : e.eval (.tmp 12) = .int .i64 i) (h2 : e.eval (.tmp 14) = .int .i64 j) : (execOp e.eval (ops3[3]'(by rw [ops3_size]; decide))).run Try.prog w = .ok (.value (.bool (decide (i < j)))) w := by
  have ho : (ops3[3]'(by rw [ops3_size]; decide)).op = Op.binOp BinOp.lss 3 (.tmp 12) (.tmp 14) 3 := rfl
  unfold execOp
  rw [ho]
  simp only [h1, h2]
  simp [go_sem]

theorem MI.val [Shift] {P : Program} {S V : FuncId → Bool} {ρ : Role} {σ : Sg} {f : FuncId} {t : Array Value} {ops : Array Oper} {i : Nat} {rest : List Nat} {o : Oper} {k : List Item} {cs : List Frame} {w : World} (v : Value) (ho : ops[i]? = some o) (hg : o.guard = none) (hok : okOp P S o.op = true)
    (hr : ∀ w', (execOp (Act.eval ⟨t, []⟩) o).run P w' = .ok (.value v) w') (h : ∀ U, MI P S V ρ σ (bare f (putT t o.dst v)) [] (.inRegion ops rest :: k) cs (onT w U)) : MI P S V ρ σ (bare f t) [] (.inRegion ops (i :: rest) :: k) cs w :=
  MI.op (fun _ => some v) (fun T => retape w T) ho (by simp [Region.wanted, hg]) hok (fun T => hr _) fun T => h _

theorem head3 [Shift] {ρ : Role} {σ : Sg} {k : List Item} {cs : List Frame} (t : Array Value) (w : World) (p : Option Addr) (n c : Nat) (i : Int) (hz : t.size = 61) (h0 : t[0]? = some (.slice p n c)) (h5 : t[5]? = some (.int .i64 i))
    (K : ∀ (t' : Array Value) X, t'.size = 61 → t'[15]? = some (.bool (decide (i < (n : Int)))) → (∀ s, s < 12 → t'[s]? = t[s]?) → MI Try.prog S0 V0 ρ σ (bare 30 t') [] k cs (onT w X)) : MI Try.prog S0 V0 ρ σ (bare 30 t) [] (.code code3 :: k) cs w := by
  rw [code3_is]
  refine MI.ctl (k1 := .inRegion ops3 [0, 1, 2, 3] :: k) (fun _ _ _ _ _ => stepG_region) ?_
  refine MI.move (o := ops3[0]'(by rw [ops3_size]; decide)) rfl (.inl rfl) rfl rfl fun U1 => ?_
  show MI _ _ _ _ _ (bare 30 (putT t (some 12) (Act.eval ⟨t, []⟩ (.tmp 5)))) _ _ _ _
  rw [ev_at h5]
  obtain ⟨t1, ht1⟩ : ∃ t1, t1 = putT t (some 12) (.int .i64 i) := ⟨_, rfl⟩
  rw [← ht1]
  have z1 : t1.size = 61 := by rw [ht1, putT_size]; exact hz
  have a12 : t1[12]? = some (.int .i64 i) := by rw [ht1, put_get (by omega)]; simp
  have a0 : t1[0]? = some (.slice p n c) := by rw [ht1, put_get (by omega)]; simpa using h0
  have o1 : ∀ s, s < 12 → t1[s]? = t[s]? := fun s hs => by rw [ht1, put_get (by omega), if_neg (by omega)]
  clear ht1
  refine MI.move (o := ops3[1]'(by rw [ops3_size]; decide)) rfl (.inl rfl) rfl rfl fun U2 => ?_
  show MI _ _ _ _ _ (bare 30 (putT t1 (some 13) (Act.eval ⟨t1, []⟩ (.tmp 0)))) _ _ _ _
  rw [ev_at a0]
  obtain ⟨t2, ht2⟩ : ∃ t2, t2 = putT t1 (some 13) (.slice p n c) := ⟨_, rfl⟩
  rw [← ht2]
  have z2 : t2.size = 61 := by rw [ht2, putT_size]; exact z1
  have b12 : t2[12]? = some (.int .i64 i) := by rw [ht2, put_get (by omega)]; simpa using a12
  have b13 : t2[13]? = some (.slice p n c) := by rw [ht2, put_get (by omega)]; simp
  have o2 : ∀ s, s < 12 → t2[s]? = t[s]? := fun s hs => by rw [ht2, put_get (by omega), if_neg (by omega)]; exact o1 s hs
  clear ht2
  refine MI.val (o := ops3[2]'(by rw [ops3_size]; decide)) (goInt n) rfl rfl (by kernel_rfl) (fun w' => len3 _ _ p n c (ev_at b13)) fun U3 => ?_
  show MI _ _ _ _ _ (bare 30 (putT t2 (some 14) (.int .i64 n))) _ _ _ _
  obtain ⟨t3, ht3⟩ : ∃ t3, t3 = putT t2 (some 14) (.int .i64 n) := ⟨_, rfl⟩
  rw [← ht3]
  have z3 : t3.size = 61 := by rw [ht3, putT_size]; exact z2
  have c12 : t3[12]? = some (.int .i64 i) := by rw [ht3, put_get (by omega)]; simpa using b12
  have c14 : t3[14]? = some (.int .i64 n) := by rw [ht3, put_get (by omega)]; simp
  have o3 : ∀ s, s < 12 → t3[s]? = t[s]? := fun s hs => by rw [ht3, put_get (by omega), if_neg (by omega)]; exact o2 s hs
  clear ht3
  refine MI.val (o := ops3[3]'(by rw [ops3_size]; decide)) (.bool (decide (i < (n : Int)))) rfl rfl (by kernel_rfl) (fun w' => lss3 _ _ _ _ (ev_at c12) (ev_at c14)) fun U4 => ?_
  refine MI.ctl (k1 := k) (fun _ _ _ _ _ => stepG_region_end) ?_
  refine K _ U4 (by rw [show (putT t3 (ops3[3]'(by rw [ops3_size]; decide)).dst (.bool (decide (i < (n : Int))))) = putT t3 (some 15) (.bool (decide (i < (n : Int)))) from rfl, putT_size]; exact z3) ?_ fun s hs => ?_
  · rw [show (putT t3 (ops3[3]'(by rw [ops3_size]; decide)).dst (.bool (decide (i < (n : Int))))) = putT t3 (some 15) (.bool (decide (i < (n : Int)))) from rfl, put_get (by omega)]
    simp
  · rw [show (putT t3 (ops3[3]'(by rw [ops3_size]; decide)).dst (.bool (decide (i < (n : Int))))) = putT t3 (some 15) (.bool (decide (i < (n : Int)))) from rfl, put_get (by omega), if_neg (by omega)]
    exact o3 s hs
end Go.Proofs.Ytcobehkadhcjiaa

/-
  crew.mergePairs: the end of a round of its first loop.
-/
namespace Go.Proofs.Ytcobehkadhcjiaa
open Go Go.Conc Go.RowKit Go.Sort

noncomputable def code4 : Code := seqR (seqR round1)
noncomputable def ops4 : Array Oper := opsC code4
theorem code4_is : code4 = .region 4 ops4 false := rfl
theorem ops4_size : ops4.size = 3 := by kernel_rfl
theorem add4 (e : Act) (w : World) (i : Int) (h1 : e.eval (.tmp 16) = .int .i64 i) (hw : IntKind.i64.wrap (i + 2) = i + 2) : (execOp e.eval (ops4[1]'(by rw [ops4_size]; decide))).run Try.prog w = .ok (.value (.int .i64 (i + 2))) w := by
  have ho : (ops4[1]'(by rw [ops4_size]; decide)).op = Op.binOp BinOp.add 3 (.tmp 16) (.const (.int .i64 2)) 3 := rfl
  have h2 : e.eval (.const (.int .i64 2)) = .int .i64 2 := rfl
  unfold execOp
  rw [ho]
  simp only [h1, h2]
  simp [go_sem, hw]
theorem step4 [Shift] {ρ : Role} {σ : Sg} {k : List Item} {cs : List Frame} (t : Array Value) (w : World) (i : Int) (hz : t.size = 61) (h5 : t[5]? = some (.int .i64 i)) (h0 : 0 ≤ i) (h1 : i ≤ 4611686018427387904)
    (K : ∀ (t' : Array Value) X, t'.size = 61 → t'[5]? = some (.int .i64 (i + 2)) → (∀ s, s < 12 → s ≠ 5 → t'[s]? = t[s]?) → MI Try.prog S0 V0 ρ σ (bare 30 t') [] k cs (onT w X)) : MI Try.prog S0 V0 ρ σ (bare 30 t) [] (.code code4 :: k) cs w := by
  rw [code4_is]
  refine MI.ctl (k1 := .inRegion ops4 [0, 1, 2] :: k) (fun _ _ _ _ _ => stepG_region) ?_
  refine MI.move (o := ops4[0]'(by rw [ops4_size]; decide)) rfl (.inl rfl) rfl rfl fun U1 => ?_
  show MI _ _ _ _ _ (bare 30 (putT t (some 16) (Act.eval ⟨t, []⟩ (.tmp 5)))) _ _ _ _
  rw [ev_at h5]
  obtain ⟨t1, ht1⟩ : ∃ t1, t1 = putT t (some 16) (.int .i64 i) := ⟨_, rfl⟩
  rw [← ht1]
  have z1 : t1.size = 61 := by rw [ht1, putT_size]; exact hz
  have a16 : t1[16]? = some (.int .i64 i) := by rw [ht1, put_get (by omega)]; simp
  have o1 : ∀ s, s < 12 → t1[s]? = t[s]? := fun s hs => by rw [ht1, put_get (by omega), if_neg (by omega)]
  clear ht1
  refine MI.val (o := ops4[1]'(by rw [ops4_size]; decide)) (.int .i64 (i + 2)) rfl rfl (by kernel_rfl) (fun w' => add4 _ _ i (ev_at a16) (by rw [IntKind.wrap_i64]; omega)) fun U2 => ?_
  show MI _ _ _ _ _ (bare 30 (putT t1 (some 17) (.int .i64 (i + 2)))) _ _ _ _
  obtain ⟨t2, ht2⟩ : ∃ t2, t2 = putT t1 (some 17) (.int .i64 (i + 2)) := ⟨_, rfl⟩
  rw [← ht2]
  have z2 : t2.size = 61 := by rw [ht2, putT_size]; exact z1
  have b17 : t2[17]? = some (.int .i64 (i + 2)) := by rw [ht2, put_get (by omega)]; simp
  have o2 : ∀ s, s < 12 → t2[s]? = t[s]? := fun s hs => by rw [ht2, put_get (by omega), if_neg (by omega)]; exact o1 s hs
  clear ht2
  refine MI.move (o := ops4[2]'(by rw [ops4_size]; decide)) rfl (.inr rfl) rfl rfl fun U3 => ?_
  show MI _ _ _ _ _ (bare 30 (putT t2 (some 5) (Act.eval ⟨t2, []⟩ (.tmp 17)))) _ _ _ _
  rw [ev_at b17]
  refine MI.ctl (k1 := k) (fun _ _ _ _ _ => stepG_region_end) ?_
  refine K _ U3 (by rw [putT_size]; exact z2) (by rw [put_get (by omega)]; simp) fun s hs h5' => ?_
  rw [put_get (by omega), if_neg h5']
  exact o2 s hs
end Go.Proofs.Ytcobehkadhcjiaa

/-
  crew.mergePairs: a channel more in the row of channels.
-/
namespace Go.Proofs.Ytcobehkadhcjiaa
open Go Go.Conc Go.RowKit Go.Sort

noncomputable def code7 : Code := seqR (seqR pair1)
noncomputable def ops7 : Array Oper := opsC code7
theorem code7_is : code7 = .region 7 ops7 false := rfl
theorem ops7_size : ops7.size = 5 := by kernel_rfl
theorem build7 (e : Act) (w : World) (c : Nat) (h : e.eval (.tmp 30) = .chan (some c)) : (execOp e.eval (ops7[2]'(by rw [ops7_size]; decide))).run Try.prog w = .ok (.value (.slice (some ⟨w.heap.size, 0, none⟩) 1 1)) (w.alloc (.cells #[.chan (some c)] 95 (0, 0))) := by
  have ho : (ops7[2]'(by rw [ops7_size]; decide)).op = Op.buildSlice 94 1 #[(0, .tmp 30)] := rfl
  unfold execOp
  rw [ho]
  have h' : e.tmps[30]?.getD undef = .chan (some c) := by
    rw [← h]
    show _ = e.tmps.getD 30 undef
    rw [Array.getD_eq_getD_getElem?]
  simp [go_sem, h']

theorem MI.opE [Shift] {P : Program} {S V : FuncId → Bool} {ρ : Role} {σ : Sg} {f : FuncId} {t : Array Value} {ops : Array Oper} {i : Nat} {rest : List Nat} {o : Oper} {k : List Item} {cs : List Frame} {w : World} (ho : ops[i]? = some o) (hg : o.guard = none) (hok : okOp P S o.op = true)
    (h : ∀ T, ∃ v w1, (execOp (Act.eval ⟨t, []⟩) o).run P (retape w T) = .ok (.value v) w1 ∧ MI P S V ρ σ (bare f (putT t o.dst v)) [] (.inRegion ops rest :: k) cs w1) : MI P S V ρ σ (bare f t) [] (.inRegion ops (i :: rest) :: k) cs w := by
  obtain ⟨v, hv⟩ := Classical.axiomOfChoice h
  obtain ⟨W, hW⟩ := Classical.axiomOfChoice hv
  exact MI.op (fun T => some (v T)) W ho (by simp [Region.wanted, hg]) hok (fun T => (hW T).1) fun T => (hW T).2
end Go.Proofs.Ytcobehkadhcjiaa
