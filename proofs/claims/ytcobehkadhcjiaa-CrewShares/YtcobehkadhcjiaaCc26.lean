/-
  Goroutines among others: part 26 of what the law's own text rests on.
-/
import Derived.Test.YtcobehkadhcjiaaCc25
/-
  A WORKER of crew.Splits, whole.
-/
namespace Go.Proofs.Ytcobehkadhcjiaa
open Go Go.Conc Go.ConcN Go.Conc.Lib Go.RowKit
open Go.ConcR (Payload)

theorem store_one {ty : TypeId} (hz : ∀ w, (sizeOf ty).run Try.prog w = .ok 1 w) (hze : ∀ w es, (sizeOf ty).events Try.prog w es = es) {e : Operand → Value} {o : Oper} {x y : Operand} (ho : o.op = .store ty x y) (w : World) (es : Array Event) (a : Addr) (v u : Value) (h1 : e x = .pointer (some a)) (h2 : e y = v) (hv : v.oneCell' = true) (hc : w.cell? a = some u) (hf : w.frozen? a = false) :
    (execOp e o).run Try.prog w = .ok .skip (w.setCell a v) ∧ (execOp e o).events Try.prog w es = es.push ⟨.cell a, true, false⟩ := by
  have r1 := run_store Try.prog w a v .plain hv
  have r2 := events_store (P := Try.prog) (w := w) (es := es) a v .plain hv
  rw [hc] at r1 r2
  simp only [hf, if_false, Bool.false_eq_true] at r1 r2
  have r3 : (Mode.plain == Mode.atomic) = false := rfl
  rw [r3] at r2
  unfold execOp
  simp only [ho, h1, h2]
  cases v with
  | agg _ => cases hv
  | tuple _ => cases hv
  | _ => exact ⟨by simp [go_sem, storeVar, storeCells, hz, r1, hc, hf], by simp [go_sem, storeVar, storeCells, hz, hze, r2, r3, hc, hf]⟩
theorem sz22 (w : World) : (sizeOf 22).run Try.prog w = .ok 1 w := by simp [go_sem]
theorem sze22 (w : World) (es : Array Event) : (sizeOf 22).events Try.prog w es = es := by simp [go_sem]
theorem sz24 (w : World) : (sizeOf 24).run Try.prog w = .ok 1 w := by simp [go_sem]
theorem sze24 (w : World) (es : Array Event) : (sizeOf 24).events Try.prog w es = es := by simp [go_sem]

noncomputable def body20 : Code := Try.f20.body.getD .skip
noncomputable def codeW : Code := seqR body20
noncomputable def opsW : Array Oper := opsC codeW
theorem codeW_is : codeW = .region 1 opsW true := rfl
theorem opsW_size : opsW.size = 17 := by kernel_rfl
theorem opsW_sink : Region.sinkB .any opsW 16 = true := by kernel_rfl
theorem opsW_ok : opsW.all (okO Try.prog S1 V1) = true := by kernel_rfl
theorem opsW_low : ((List.range 17).all fun i => match opsW[i]? with | some o => o.after.all (fun e => !Region.binds .any e || decide (e.on < i)) | none => true) = true := by kernel_rfl
theorem opsW_lt : ∀ i o, opsW[i]? = some o → ∀ e ∈ o.after, Region.binds .any e = true → e.on < i := fun i o ho e he hb => by
  have hi : i < 17 := by have := (Array.getElem?_eq_some_iff.1 ho).1; rw [opsW_size] at this; exact this
  have := List.all_eq_true.1 opsW_low i (List.mem_range.2 hi)
  rw [ho] at this
  have := Array.all_eq_true_iff_forall_mem.1 this e he
  simpa [hb] using this

def dstW (j : Nat) : Nat := [7, 8, 9, 10, 11, 12, 13, 14, 15, 16, 6, 17, 18, 19, 0, 20].getD j 0
theorem dstW_inj : ∀ i, i < 16 → i ≠ 14 → ∀ j, j < 16 → j ≠ 14 → dstW i = dstW j → i = j := by decide
theorem dstW_ge : ∀ i, i < 16 → i ≠ 14 → 6 ≤ dstW i ∧ dstW i < 21 := by decide

/-- Where all lies. -/
structure WD where
  bT : Nat
  bW : Nat
  bI : Nat
  bS : Nat
  bC : Nat
  gw : Nat
  ow : Nat
  m : Nat
  cw : Nat
  n1 : Nat
  c1 : Nat
  n2 : Nat
  c2 : Nat
  vi : Value
/-- What is handed to a worker. -/
structure WIn (d : WD) (t0 : Array Value) (w0 : World) (c : Wc) (tot : Int) (l : List Int) : Prop where
  size : t0.size = 21
  s1 : t0[1]? = some (.pointer (some ⟨d.bT, 0, none⟩))
  s2 : t0[2]? = some (.pointer (some ⟨d.bW, 0, none⟩))
  s3 : t0[3]? = some (.pointer (some ⟨d.bI, 0, none⟩))
  s4 : t0[4]? = some (.pointer (some ⟨d.bS, 0, none⟩))
  s5 : t0[5]? = some (.pointer (some ⟨d.bC, 0, none⟩))
  cT : w0.cell? ⟨d.bT, 0, none⟩ = some (.int .i64 tot)
  cW : w0.cell? ⟨d.bW, 0, none⟩ = some (.slice (some ⟨d.gw, d.ow, none⟩) d.m d.cw)
  cI : w0.cell? ⟨d.bI, 0, none⟩ = some (.int .i64 (c.i : Nat))
  cS : w0.cell? ⟨d.bS, 0, none⟩ = some (.slice (some ⟨c.rw.b false, 0, none⟩) d.n1 d.c1)
  cC : w0.cell? ⟨d.bC, 0, none⟩ = some (.slice (some ⟨c.rw.b true, 0, none⟩) d.n2 d.c2)
  im : c.i < d.m
  i1 : c.i < d.n1
  i2 : c.i < d.n2
  cV : w0.cell? ⟨d.gw, d.ow + c.i, none⟩ = some d.vi
  seg : Seg w0 d.vi l
  lies : Lies w0.heap.size d.vi
  big : l.length ≤ 9223372036854775807

def valW (d : WD) (c : Wc) (tot : Int) (l : List Int) (r : Value) (j : Nat) : Value :=
  [.slice (some ⟨c.rw.b false, 0, none⟩) d.n1 d.c1, .int .i64 (c.i : Nat), .slice (some ⟨c.rw.b true, 0, none⟩) d.n2 d.c2, .int .i64 (c.i : Nat), .int .i64 tot, .slice (some ⟨d.gw, d.ow, none⟩) d.m d.cw, .int .i64 (c.i : Nat),
    .pointer (some ⟨d.gw, d.ow + c.i, none⟩), d.vi, .tuple #[r, .int .i64 (Bo.Plain.splitE tot l : Nat)], .tuple #[r, .int .i64 (Bo.Plain.splitE tot l : Nat)], r, .int .i64 (Bo.Plain.splitE tot l : Nat),
    .pointer (some ⟨c.rw.b false, c.i, none⟩), undef, .pointer (some ⟨c.rw.b true, c.i, none⟩)].getD j undef
theorem valW_r {d : WD} {c : Wc} {tot : Int} {l : List Int} {r r' : Value} {j : Nat} (h9 : j ≠ 9) (h10 : j ≠ 10) (h11 : j ≠ 11) (h12 : j ≠ 12) (hj : j < 16) : valW d c tot l r j = valW d c tot l r' j := by
  have : j = 0 ∨ j = 1 ∨ j = 2 ∨ j = 3 ∨ j = 4 ∨ j = 5 ∨ j = 6 ∨ j = 7 ∨ j = 8 ∨ j = 13 ∨ j = 14 ∨ j = 15 := by omega
  rcases this with rfl | rfl | rfl | rfl | rfl | rfl | rfl | rfl | rfl | rfl | rfl | rfl <;> rfl

/-- Within its region, in whatever order. -/
structure JW (d : WD) (t0 : Array Value) (w0 : World) (c : Wc) (tot : Int) (l : List Int) (r : Value) (u : Bool → Option Value) (ls : Array Bool) (t : Array Value) (w : World) : Prop where
  size : t.size = 21
  base : ∀ s, s < 6 → t[s]? = t0[s]?
  slot : ∀ j, j < 16 → j ≠ 14 → ls.getD j false = true → t[dstW j]? = some (valW d c tot l r j)
  grow : w0.heap.size ≤ w.heap.size
  blk : ∀ k, k < w0.heap.size → w.heap[k]? = w0.heap[k]?
  bef : ls.getD 9 false = false → ∀ j, j = 10 ∨ j = 11 ∨ j = 12 ∨ j = 14 → ls.getD j false = false
  aft : ls.getD 9 false = true → OwnI w0.heap.size w r (Bo.Plain.splitV tot l)
  put : ls.getD 14 false = true → u false = some r

section
variable {d : WD} {t0 : Array Value} {w0 : World} {c : Wc} {tot : Int} {l : List Int} {r : Value} {u : Bool → Option Value} {ls : Array Bool} {t : Array Value} {w : World}
theorem JW.cell (J : JW d t0 w0 c tot l r u ls t w) {a : Addr} {x : Value} (h : w0.cell? a = some x) : w.cell? a = some x :=
  (World.cell?_of_block (J.blk _ (World.block_lt_of_cell? (h := h)))).trans h
theorem JW.set (J : JW d t0 w0 c tot l r u ls t w) {i : Nat} (hi : i < 16) (h14 : i ≠ 14) (h9 : i ≠ 9) (hd : i = 10 ∨ i = 11 ∨ i = 12 → ls.getD 9 false = true) {w' : World} (hw : w'.heap = w.heap) :
    JW d t0 w0 c tot l r u (ls.setIfInBounds i true) (putT t (some (dstW i)) (valW d c tot l r i)) w' := by
  have hg := dstW_ge i hi h14
  have hsz : dstW i < t.size := by rw [J.size]; exact hg.2
  refine ⟨by rw [putT_size]; exact J.size, fun s hs => ?_, fun j hj hj14 hlj => ?_, by rw [hw]; exact J.grow, fun k hk => by rw [hw]; exact J.blk k hk, fun h j hj => ?_, fun h => ?_, fun h => ?_⟩
  · rw [put_get hsz, if_neg (by omega)]
    exact J.base s hs
  · rw [put_get hsz]
    by_cases e : i = j
    · subst e; simp
    · rw [getD_set_ne false e] at hlj
      rw [if_neg fun h => e (dstW_inj i hi h14 j hj hj14 h.symm)]
      exact J.slot j hj hj14 hlj
  · rw [getD_set_ne false h9] at h
    have : i ≠ j := fun e => by
      subst e
      rcases hj with e | e | e | e
      · rw [hd (.inl e)] at h; cases h
      · rw [hd (.inr (.inl e))] at h; cases h
      · rw [hd (.inr (.inr e))] at h; cases h
      · exact h14 e
    rw [getD_set_ne false this]
    exact J.bef h j hj
  · rw [getD_set_ne false h9] at h
    exact (J.aft h).heap hw
  · rw [getD_set_ne false h14] at h
    exact J.put h

variable [Shift] [Payload] {L : WgLink} {k : List Item} {cs : List Frame}
/-- An entry that yields a value and leaves the world as it is. -/
theorem vlW (J : JW d t0 w0 c tot l r u ls t w) {i : Nat} {rest : List Nat} (hi : i < 16) (h14 : i ≠ 14) (h9 : i ≠ 9) (hd : i = 10 ∨ i = 11 ∨ i = 12 → ls.getD 9 false = true) {o : Oper} (ho : opsW[i]? = some o) (hdst : o.dst = some (dstW i)) (hg : o.guard = none)
    (hok : okOp Try.prog S1 o.op = true) (hr : ∀ T, (execOp (Act.eval ⟨t, []⟩) o).run Try.prog (retape w T) = .ok (.value (valW d c tot l r i)) (retape w T))
    (K : ∀ t'' w'', JW d t0 w0 c tot l r u (ls.setIfInBounds i true) t'' w'' → MJ Try.prog L S1 V1 (.wk c u) (bare 20 t'') [] (.inRegion opsW rest :: k) cs w'') : MJ Try.prog L S1 V1 (.wk c u) (bare 20 t) [] (.inRegion opsW (i :: rest) :: k) cs w := by
  refine MJ.op (fun _ => some (valW d c tot l r i)) (fun T => retape w T) ho (by simp [Region.wanted, hg]) hok hr fun T => ?_
  rw [hdst]
  exact K _ _ (J.set hi h14 h9 hd rfl)
end
end Go.Proofs.Ytcobehkadhcjiaa

/-
  A WORKER of crew.Splits: entry by entry, in whatever order.
-/
namespace Go.Proofs.Ytcobehkadhcjiaa
open Go Go.Conc Go.ConcN Go.Conc.Lib Go.RowKit
open Go.ConcR (Payload)

theorem run_call {P : Program} {e : Operand → Value} {o : Oper} {g : FuncId} {xs : Array Operand} {tys : Array TypeId} (ho : o.op = .call { callee := .value (.func g), args := xs, argTypes := tys }) (he : e (.func g) = .func (.func g) #[] #[])
    (eg : ∀ args w, (callFunc g args).run P w = .ok (.enter g args) w) (w : World) : (execOp e o).run P w = .ok (.enter g (xs.map e)) w := by
  unfold execOp
  rw [ho]
  simp [resolve, Deferred.ofValue, invoke, he, eg]
theorem eg22 : ∀ args w, (callFunc 22 args).run Try.prog w = .ok (.enter 22 args) w := enters_of Try.func22 (by kernel_rfl) rfl

section
variable {d : WD} {t0 : Array Value} {w0 : World} {c : Wc} {tot : Int} {l : List Int}
variable [Shift] [Payload] {L : WgLink} {k : List Item} {cs : List Frame}

/-- One entry ahead of the last. -/
theorem stepW (hP : OkP Try.prog S1 V1) (hI : WIn d t0 w0 c tot l) {i : Nat} (hi : i < 16) (ls : Array Bool) (t : Array Value) (w : World) (r : Value) (u : Bool → Option Value) (rest : List Nat) (J : JW d t0 w0 c tot l r u ls t w) (hl0 : ls.getD i true = false)
    (hsz : ls.size = 17) (hdep : ∀ j, Region.waitsFor .any opsW i j = true → ls.getD j false = true)
    (K : ∀ t'' w'' r' u', JW d t0 w0 c tot l r' u' (ls.setIfInBounds i true) t'' w'' → MJ Try.prog L S1 V1 (.wk c u') (bare 20 t'') [] (.inRegion opsW rest :: k) [] w'') : MJ Try.prog L S1 V1 (.wk c u) (bare 20 t) [] (.inRegion opsW (i :: rest) :: k) [] w := by
  have hc : i = 0 ∨ i = 1 ∨ i = 2 ∨ i = 3 ∨ i = 4 ∨ i = 5 ∨ i = 6 ∨ i = 7 ∨ i = 8 ∨ i = 9 ∨ i = 10 ∨ i = 11 ∨ i = 12 ∨ i = 13 ∨ i = 14 ∨ i = 15 := by omega
  have K' : ∀ t'' w'', JW d t0 w0 c tot l r u (ls.setIfInBounds i true) t'' w'' → MJ Try.prog L S1 V1 (.wk c u) (bare 20 t'') [] (.inRegion opsW rest :: k) [] w'' := fun t'' w'' h => K t'' w'' r u h
  have bs : ∀ {s : Nat} {v : Value}, s < 6 → t0[s]? = some v → Act.eval ⟨t, []⟩ (.tmp s) = v := fun hs h => ev_at ((J.base _ hs).trans h)
  have sl : ∀ {j : Nat} {s : Nat}, j < 16 → j ≠ 14 → dstW j = s → Region.waitsFor .any opsW i j = true → Act.eval ⟨t, []⟩ (.tmp s) = valW d c tot l r j := fun h1 h2 h3 h4 => by
    subst h3
    exact ev_at (J.slot _ h1 h2 (hdep _ h4))
  rcases hc with rfl | rfl | rfl | rfl | rfl | rfl | rfl | rfl | rfl | rfl | rfl | rfl | rfl | rfl | rfl | rfl
  · exact vlW (o := opsW[0]'(by rw [opsW_size]; decide)) J (by decide) (by decide) (by decide) (by omega) rfl rfl rfl (by kernel_rfl) (fun T => run_ld23 rfl _ _ (bs (by decide) hI.s4) (J.cell hI.cS)) K'
  · exact vlW (o := opsW[1]'(by rw [opsW_size]; decide)) J (by decide) (by decide) (by decide) (by omega) rfl rfl rfl (by kernel_rfl) (fun T => run_ld3 rfl _ _ (bs (by decide) hI.s3) (J.cell hI.cI)) K'
  · exact vlW (o := opsW[2]'(by rw [opsW_size]; decide)) J (by decide) (by decide) (by decide) (by omega) rfl rfl rfl (by kernel_rfl) (fun T => run_ld47 rfl _ _ (bs (by decide) hI.s5) (J.cell hI.cC)) K'
  · exact vlW (o := opsW[3]'(by rw [opsW_size]; decide)) J (by decide) (by decide) (by decide) (by omega) rfl rfl rfl (by kernel_rfl) (fun T => run_ld3 rfl _ _ (bs (by decide) hI.s3) (J.cell hI.cI)) K'
  · exact vlW (o := opsW[4]'(by rw [opsW_size]; decide)) J (by decide) (by decide) (by decide) (by omega) rfl rfl rfl (by kernel_rfl) (fun T => run_ld3 rfl _ _ (bs (by decide) hI.s1) (J.cell hI.cT)) K'
  · exact vlW (o := opsW[5]'(by rw [opsW_size]; decide)) J (by decide) (by decide) (by decide) (by omega) rfl rfl rfl (by kernel_rfl) (fun T => run_ld23 rfl _ _ (bs (by decide) hI.s2) (J.cell hI.cW)) K'
  · exact vlW (o := opsW[6]'(by rw [opsW_size]; decide)) J (by decide) (by decide) (by decide) (by omega) rfl rfl rfl (by kernel_rfl) (fun T => run_ld3 rfl _ _ (bs (by decide) hI.s3) (J.cell hI.cI)) K'
  · refine vlW (o := opsW[7]'(by rw [opsW_size]; decide)) J (by decide) (by decide) (by decide) (by omega) rfl rfl rfl (by kernel_rfl) (fun T => ?_) K'
    exact run_ix (ty := 23) (el := 22) rfl (by kernel_rfl) (by kernel_rfl) d.gw d.ow d.m d.cw c.i (sl (j := 5) (by decide) (by decide) rfl (by kernel_rfl)) (sl (j := 6) (by decide) (by decide) rfl (by kernel_rfl)) hI.im
  · refine vlW (o := opsW[8]'(by rw [opsW_size]; decide)) J (by decide) (by decide) (by decide) (by omega) rfl rfl rfl (by kernel_rfl) (fun T => ?_) K'
    exact run_ld22 rfl _ _ (sl (j := 7) (by decide) (by decide) rfl (by kernel_rfl)) (J.cell hI.cV)
  · have h9 : ls.getD 9 false = false := by
      rw [Array.getD_eq_getD_getElem?] at hl0 ⊢
      cases h : ls[9]? with
      | none => rw [h] at hl0; cases hl0
      | some b => rw [h] at hl0; exact hl0
    have a1 : Act.eval ⟨t, []⟩ (.tmp 11) = .int .i64 tot := sl (j := 4) (by decide) (by decide) rfl (by kernel_rfl)
    have a2 : Act.eval ⟨t, []⟩ (.tmp 15) = d.vi := sl (j := 8) (by decide) (by decide) rfl (by kernel_rfl)
    refine MJ.call (h := 22) (args := #[.int .i64 tot, d.vi]) (o := opsW[9]'(by rw [opsW_size]; decide)) hP opsW_ok rfl rfl (fun w' => ?_) fun T => ?_
    · rw [run_call (g := 22) (xs := #[.tmp 11, .tmp 15]) (tys := #[3, 22]) rfl rfl eg22]
      simp only [List.map_toArray, List.map_cons, List.map_nil, a1, a2]
    · have sg : Seg (retape w T) d.vi l := by
        rcases hI.seg with ⟨e, p, cp, hv⟩ | ⟨b, off, cp, hv, hc⟩
        · exact .inl ⟨e, p, cp, hv⟩
        · exact .inr ⟨b, off, cp, hv, fun j hj => J.cell (hc j hj)⟩
      refine (split_own d.vi l tot hI.big (retape w T) sg (hI.lies.mono J.grow)).mono ?_
      rintro e w' ⟨r', rfl, hO, hb⟩
      refine ⟨_, rfl, fun U => K _ _ r' u ?_⟩
      have hb' := J.bef h9
      have hgrow : w.heap.size ≤ w'.heap.size := hb.size
      refine ⟨by rw [show (opsW[9]'(by rw [opsW_size]; decide)).dst = some 16 from rfl, putT_size]; exact J.size, fun s hs => ?_, fun j hj hj14 hlj => ?_, Nat.le_trans J.grow hgrow, fun q hq => (hb.block q (Nat.lt_of_lt_of_le hq J.grow)).trans (J.blk q hq), fun h => ?_, fun _ => ?_, fun h => ?_⟩
      · rw [show (opsW[9]'(by rw [opsW_size]; decide)).dst = some 16 from rfl, put_get (by rw [J.size]; decide), if_neg (by omega)]
        exact J.base s hs
      · rw [show (opsW[9]'(by rw [opsW_size]; decide)).dst = some (dstW 9) from rfl, put_get (by rw [J.size]; decide)]
        by_cases e9 : 9 = j
        · subst e9; rfl
        · rw [getD_set_ne false e9] at hlj
          rw [if_neg fun h => e9 (dstW_inj 9 (by decide) (by decide) j hj hj14 h.symm)]
          rw [valW_r (r := r') (r' := r) (fun e => e9 e.symm) (fun e => by rw [e, hb' 10 (by omega)] at hlj; cases hlj) (fun e => by rw [e, hb' 11 (by omega)] at hlj; cases hlj) (fun e => by rw [e, hb' 12 (by omega)] at hlj; cases hlj) hj]
          exact J.slot j hj hj14 hlj
      · exfalso
        have : (ls.setIfInBounds 9 true).getD 9 false = true := by simp [hsz]
        rw [this] at h; cases h
      · have h2 : OwnI w.heap.size w' r' (Bo.Plain.splitV tot l) := hO
        have h3 : OwnI w0.heap.size w' r' (Bo.Plain.splitV tot l) := by
          rcases h2 with h2 | ⟨g, cp, e, hr, hg⟩
          · exact .inl h2
          · exact .inr ⟨g, cp, e, hr, Nat.le_trans J.grow hg⟩
        exact h3.heap rfl
      · rw [getD_set_ne false (by decide), hb' 14 (by omega)] at h
        cases h
  · have d9 : ls.getD 9 false = true := hdep 9 (by kernel_rfl)
    refine vlW (o := opsW[10]'(by rw [opsW_size]; decide)) J (by decide) (by decide) (by decide) (fun _ => d9) rfl rfl rfl (by kernel_rfl) (fun T => ?_) K'
    have := sl (j := 9) (s := 16) (by decide) (by decide) rfl (by kernel_rfl)
    show (pure (Next.value (Act.eval ⟨t, []⟩ (.tmp 16))) : Sem Next).run _ _ = _
    rw [this]
    rfl
  · have d10 : ls.getD 10 false = true := hdep 10 (by kernel_rfl)
    have d9 : ls.getD 9 false = true := by
      cases h : ls.getD 9 false with
      | true => rfl
      | false => rw [J.bef h 10 (.inl rfl)] at d10; cases d10
    refine vlW (o := opsW[11]'(by rw [opsW_size]; decide)) J (by decide) (by decide) (by decide) (fun _ => d9) rfl rfl rfl (by kernel_rfl) (fun T => ?_) K'
    exact run_ext (x := .tmp 6) (i := 0) rfl _ _ (sl (j := 10) (by decide) (by decide) rfl (by kernel_rfl)) rfl
  · have d10 : ls.getD 10 false = true := hdep 10 (by kernel_rfl)
    have d9 : ls.getD 9 false = true := by
      cases h : ls.getD 9 false with
      | true => rfl
      | false => rw [J.bef h 10 (.inl rfl)] at d10; cases d10
    refine vlW (o := opsW[12]'(by rw [opsW_size]; decide)) J (by decide) (by decide) (by decide) (fun _ => d9) rfl rfl rfl (by kernel_rfl) (fun T => ?_) K'
    exact run_ext (x := .tmp 6) (i := 1) rfl _ _ (sl (j := 10) (by decide) (by decide) rfl (by kernel_rfl)) rfl
  · refine vlW (o := opsW[13]'(by rw [opsW_size]; decide)) J (by decide) (by decide) (by decide) (by omega) rfl rfl rfl (by kernel_rfl) (fun T => ?_) K'
    have := run_ix (P := Try.prog) (e := Act.eval ⟨t, []⟩) (w := retape w T) (o := opsW[13]'(by rw [opsW_size]; decide)) (ty := 23) (el := 22) rfl (by kernel_rfl) (by kernel_rfl) (c.rw.b false) 0 d.n1 d.c1 c.i (sl (j := 0) (by decide) (by decide) rfl (by kernel_rfl)) (sl (j := 1) (by decide) (by decide) rfl (by kernel_rfl)) hI.i1
    rw [Nat.zero_add] at this
    exact this
  · have d11 : ls.getD 11 false = true := hdep 11 (by kernel_rfl)
    have d9 : ls.getD 9 false = true := hdep 9 (by kernel_rfl)
    have a1 : Act.eval ⟨t, []⟩ (.tmp 19) = .pointer (some ⟨c.rw.b false, c.i, none⟩) := sl (j := 13) (by decide) (by decide) rfl (by kernel_rfl)
    have a2 : Act.eval ⟨t, []⟩ (.tmp 17) = r := sl (j := 11) (by decide) (by decide) rfl (by kernel_rfl)
    refine MJ.put (z := false) (x := .tmp 19) (y := .tmp 17) (v := r) (o := opsW[14]'(by rw [opsW_size]; decide)) rfl rfl rfl rfl a1 a2 (.inr (J.aft d9).slice) (fun e w' es a v' u' e1 e2 e3 e4 e5 => store_one sz22 sze22 rfl w' es a v' u' e1 e2 e3 e4 e5) fun _ => K _ _ r _ ?_
    refine ⟨by rw [show (opsW[14]'(by rw [opsW_size]; decide)).dst = none from rfl]; exact J.size, fun s hs => J.base s hs, fun j hj hj14 hlj => ?_, J.grow, J.blk, fun h => ?_, fun h => J.aft d9, fun _ => by simp⟩
    · rw [getD_set_ne false (fun e => hj14 e.symm)] at hlj
      exact J.slot j hj hj14 hlj
    · rw [getD_set_ne false (by decide), d9] at h
      cases h
  · refine vlW (o := opsW[15]'(by rw [opsW_size]; decide)) J (by decide) (by decide) (by decide) (by omega) rfl rfl rfl (by kernel_rfl) (fun T => ?_) K'
    have := run_ix (P := Try.prog) (e := Act.eval ⟨t, []⟩) (w := retape w T) (o := opsW[15]'(by rw [opsW_size]; decide)) (ty := 47) (el := 24) rfl (by kernel_rfl) (by kernel_rfl) (c.rw.b true) 0 d.n2 d.c2 c.i (sl (j := 2) (by decide) (by decide) rfl (by kernel_rfl)) (sl (j := 3) (by decide) (by decide) rfl (by kernel_rfl)) hI.i2
    rw [Nat.zero_add] at this
    exact this
end
end Go.Proofs.Ytcobehkadhcjiaa

/-
  A WORKER of crew.Splits: its region, and its end.
-/
namespace Go.Proofs.Ytcobehkadhcjiaa
open Go Go.Conc Go.ConcN Go.Conc.Lib Go.RowKit
open Go.ConcR (Payload)

variable {d : WD} {t0 : Array Value} {w0 : World} {c : Wc} {tot : Int} {l : List Int}
variable [Shift] [Payload]
theorem workW (hP : OkP Try.prog S1 V1) (hI : WIn d t0 w0 c tot l) (hs : c.s = w0.heap.size) (hsp : c.spec = specS tot l) : MJ Try.prog wgL S1 V1 (.wk c fun _ => none) (bare 20 t0) [] [.code codeW] [] w0 := by
  rw [codeW_is]
  refine MJ.draw_all mixed opsW_size opsW_sink opsW_lt (fun ls t w ρ => ∃ r u, ρ = .wk c u ∧ JW d t0 w0 c tot l r u ls t w) ⟨undef, _, rfl, hI.size, fun _ _ => rfl, fun j hj _ h => ?_, Nat.le_refl _, fun _ _ => rfl, fun _ j hj => ?_, fun h => ?_, fun h => ?_⟩ ?_ ?_
  · rw [Array.getD_eq_getD_getElem?, Array.getElem?_replicate] at h
    rw [if_pos (by omega)] at h
    cases h
  · rcases hj with rfl | rfl | rfl | rfl <;> rfl
  · cases h
  · cases h
  · rintro i hi ls t w ρ' rest ⟨r, u, rfl, J⟩ hsz hl0 hdep K
    exact stepW hP hI hi ls t w r u rest J hl0 hsz hdep fun t'' w'' r' u' J' => K _ _ _ ⟨r', u', rfl, J'⟩
  · rintro ls t w ρ' ⟨r, u, rfl, J⟩ hall
    have sl : ∀ {j : Nat} {s : Nat}, j < 16 → j ≠ 14 → dstW j = s → Act.eval ⟨t, []⟩ (.tmp s) = valW d c tot l r j := fun h1 h2 h3 => by
      subst h3
      exact ev_at (J.slot _ h1 h2 (hall _ h1))
    have a1 : Act.eval ⟨t, []⟩ (.tmp 20) = .pointer (some ⟨c.rw.b true, c.i, none⟩) := sl (j := 15) (by decide) (by decide) rfl
    have a2 : Act.eval ⟨t, []⟩ (.tmp 18) = .int .i64 (Bo.Plain.splitE tot l : Nat) := sl (j := 12) (by decide) (by decide) rfl
    have hO := J.aft (hall 9 (by decide))
    have hu := J.put (hall 14 (by decide))
    refine MJ.put (z := true) (x := .tmp 20) (y := .tmp 18) (o := opsW[16]'(by rw [opsW_size]; decide)) rfl rfl rfl rfl a1 a2 (.inl trivial) (fun e w' es a v' u' e1 e2 e3 e4 e5 => store_one sz24 sze24 rfl w' es a v' u' e1 e2 e3 e4 e5) fun _ => ?_
    refine MJ.regE ?_
    refine MJ.done (v1 := r) (v2 := .int .i64 (Bo.Plain.splitE tot l : Nat)) (by simpa using hu) (by simp) ?_ ?_ fun t' Wg C n j v w' hK => done_goes wgLib Try.func20 rfl t' Wg C n j v w' hK
    · rw [hsp]; exact hO.told.1
    · rw [hs]; exact hO.told.2
end Go.Proofs.Ytcobehkadhcjiaa

/-
  A WORKER of crew.Splits: how it begins.
-/
namespace Go.Proofs.Ytcobehkadhcjiaa
open Go Go.Conc Go.ConcN Go.Conc.Lib Go.RowKit

noncomputable def codeD : Code := seqL body20
noncomputable def opsD : Array Oper := opsC codeD
theorem body20_is : body20 = .seq codeD codeW := rfl
theorem codeD_is : codeD = .region 0 opsD false := rfl
theorem opsD_size : opsD.size = 1 := by kernel_rfl
theorem name20 : (Try.f20.name == "runtime.NumGoroutine") = false := by kernel_rfl
theorem leads20 (c : Array Value) (p : Value) (hc : c.size = 6) (h0 : c[0]? = some p) :
    Leads Try.prog 5 (born Try.prog (closure 20 c)) (G ((baseK .deferred 20).at ⟨c ++ Array.replicate (Try.f20.ntmps - 6) undef, [dcall wgL.done #[p]]⟩ [.code codeW]) [botF Try.prog]) := by
  have h1 : ¬ Try.f20.name = "runtime.NumGoroutine" := by simpa using name20
  have hb : Try.f20.body = some body20 := rfl
  have hb2 : (Try.f20.body).isSome = true := rfl
  refine .step (g1 := G ((baseK .deferred 20).at ⟨c ++ Array.replicate (Try.f20.ntmps - 6) undef, []⟩ [.code body20]) [botF Try.prog]) rfl (fun w => ?_) ?_
  · simp [born, botF, closure, G, stepG, unwind, callDeferred, Frame.at, invoke, callFunc, Try.func20, h1, hb, GStep.after, seen_none, Frame.enter, baseK, base, hc]
  rw [body20_is]
  refine .step rfl (fun w => stepG_seq) ?_
  rw [codeD_is]
  refine .step rfl (fun w => stepG_region) ?_
  rw [opsD_size]
  refine .step rfl (fun w => stepG_defer (b := baseK .deferred 20) (o := opsD[0]'(by rw [opsD_size]; decide)) (f := 21) rfl rfl (by simp [baseK]) (show (opsD[0]'(by rw [opsD_size]; decide)).op = .defer { callee := .value (.func 21), args := #[.tmp 0], argTypes := #[57] } from rfl)) ?_
  refine .step rfl (fun w => stepG_region_end) ?_
  have e : (Array.map (Act.eval ⟨c ++ Array.replicate (Try.f20.ntmps - 6) undef, []⟩) #[Operand.tmp 0]) = #[p] := by
    have : Act.eval ⟨c ++ Array.replicate (Try.f20.ntmps - 6) undef, []⟩ (.tmp 0) = p := ev_at (by rw [Array.getElem?_append_left (by omega)]; exact h0)
    simp only [List.map_toArray, List.map_cons, List.map_nil, this]
  rw [e]
  exact .refl _
end Go.Proofs.Ytcobehkadhcjiaa
