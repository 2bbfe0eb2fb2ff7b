/-
  Goroutines among others: part 37 of what the law's own text rests on.
-/
import Derived.Test.YtcobehkadhcjiaaCc35
import Derived.Test.YtcobehkadhcjiaaCc36
/-
  A region's rest as a list of entries, also where some are not wanted; keep.CrewShares: its code.
-/
namespace Go.Proofs.Ytcobehkadhcjiaa
open Go Go.Conc Go.ConcN Go.Conc.Lib Go.RowKit Go.Shelf
open Go.ConcR (Payload)

section
variable {P : Program} {ops : Array Oper} {Q : Exit → Act → World → Prop} {i : Nat} {rest : List Nat} {t : Array Value} {w : World} {n : Nat} {l : List (Nat × Value)}
theorem wo_vl (hS : Sl t n l) {o : Oper} (d : Nat) (v : Value) (ho : ops[i]? = some o) (hw : Region.wanted o (yielded ops t) = true) (hd : o.dst = some d) (hn : d < n) (hr : (execOp (Act.eval ⟨t, []⟩) o).run P w = .ok (.value v) w)
    (h : ∀ t', Sl t' n (setS d v l) → wpOps P ops Q rest ⟨t', []⟩ w) : wpOps P ops Q (i :: rest) ⟨t, []⟩ w := by
  unfold wpOps
  rw [ho]
  dsimp only
  rw [if_pos hw]
  left
  unfold Oper.wp
  rw [hr, Oper.upon_value, hd]
  exact h _ (hS.put hn v)
theorem wo_al (hS : Sl t n l) {o : Oper} (d : Nat) (v : Value) {w1 : World} (ho : ops[i]? = some o) (hw : Region.wanted o (yielded ops t) = true) (hd : o.dst = some d) (hn : d < n) (hr : (execOp (Act.eval ⟨t, []⟩) o).run P w = .ok (.value v) w1)
    (h : ∀ t', Sl t' n (setS d v l) → wpOps P ops Q rest ⟨t', []⟩ w1) : wpOps P ops Q (i :: rest) ⟨t, []⟩ w := by
  unfold wpOps
  rw [ho]
  dsimp only
  rw [if_pos hw]
  left
  unfold Oper.wp
  rw [hr, Oper.upon_value, hd]
  exact h _ (hS.put hn v)
theorem wo_sk (hS : Sl t n l) {o : Oper} (d : Nat) (ho : ops[i]? = some o) (hw : Region.wanted o (yielded ops t) = false) (hd : o.dst = some d) (hn : d < n)
    (h : ∀ t', Sl t' n (setS d undef l) → wpOps P ops Q rest ⟨t', []⟩ w) : wpOps P ops Q (i :: rest) ⟨t, []⟩ w := by
  unfold wpOps
  rw [ho]
  dsimp only
  rw [if_neg (by rw [hw]; simp), hd]
  exact h _ (hS.put hn undef)
theorem wo_call (hS : Sl t n l) {o : Oper} (d : Nat) (f : FuncId) (args : Array Value) (R : Value → World → Prop) (ho : ops[i]? = some o) (hd : o.dst = some d) (hw : Region.wanted o (yielded ops t) = true) (hn : d < n)
    (hr : (execOp (Act.eval ⟨t, []⟩) o).run P w = .ok (.enter f args) w) (hC : Calls P f args w fun e w' => ∃ v, e = .returned v ∧ R v w')
    (h : ∀ v w' t', R v w' → Sl t' n (setS d v l) → wpOps P ops Q rest ⟨t', []⟩ w') : wpOps P ops Q (i :: rest) ⟨t, []⟩ w := by
  unfold wpOps
  rw [ho]
  dsimp only
  rw [if_pos hw]
  left
  unfold Oper.wp
  rw [hr, Oper.upon_enter]
  refine hC.mono ?_
  rintro e w' ⟨v, rfl, hR⟩
  dsimp only
  rw [hd]
  exact h v w' _ hR (hS.put hn v)
theorem wo_nil {t : Array Value} (h : Q .normal ⟨t, []⟩ w) : wpOps P ops Q [] ⟨t, []⟩ w := h
theorem unwanted_of {o o1 : Oper} {j d : Nat} {q : Bool} (hg : o.guard = some (j, q)) (hj : ops[j]? = some o1) (hd : o1.dst = some d) (hv : t[d]? = some (.bool (!q))) : Region.wanted o (yielded ops t) = false := by
  unfold Region.wanted
  rw [hg]
  unfold yielded
  cases q <;> simp [hj, hd, hv]
end
theorem run_pickF {P : Program} {e : Operand → Value} {w : World} {o : Oper} {c x y : Operand} {v : Value} (ho : o.op = .pick c x y) (h1 : e c = .bool false) (h2 : e y = v) : (execOp e o).run P w = .ok (.value v) w := by
  unfold execOp
  rw [ho]
  simp [h1, h2, asBool]
theorem run_not {e : Operand → Value} {w : World} {o : Oper} {x : Operand} (ho : o.op = .unOp .not 4 x) (b : Bool) (h1 : e x = .bool b) : (execOp e o).run Try.prog w = .ok (.value (.bool (!b))) w := by
  unfold execOp
  rw [ho]
  simp only [h1]
  cases b <;> simp [go_sem]
theorem run_neq3 {e : Operand → Value} {w : World} {o : Oper} {x y : Operand} (ho : o.op = .binOp .neq 3 x y 3) (i j : Int) (h1 : e x = .int .i64 i) (h2 : e y = .int .i64 j) : (execOp e o).run Try.prog w = .ok (.value (.bool (i != j))) w := by
  unfold execOp
  rw [ho]
  simp only [h1, h2]
  simp [go_sem]
theorem run_eql3 {e : Operand → Value} {w : World} {o : Oper} {x y : Operand} (ho : o.op = .binOp .eql 3 x y 3) (i j : Int) (h1 : e x = .int .i64 i) (h2 : e y = .int .i64 j) : (execOp e o).run Try.prog w = .ok (.value (.bool (i == j))) w := by
  unfold execOp
  rw [ho]
  simp only [h1, h2]
  simp [go_sem]
theorem run_buildI {e : Operand → Value} {w : World} {o : Oper} {x : Operand} (ho : o.op = .buildSlice 22 1 #[(0, x)]) (z : Int) (h : e x = .int .i64 z) : (execOp e o).run Try.prog w = .ok (.value (.slice (some ⟨w.heap.size, 0, none⟩) 1 1)) (w.alloc (.cells #[.int .i64 z] 3 (0, 0))) := by
  unfold execOp
  rw [ho]
  simp [go_sem, h]

noncomputable def body6 : Code := Try.f6.body.getD .skip
noncomputable def s3r : Code := seqR (seqR (seqR body6))
noncomputable def lpA : Code := lopC (blkC (seqR (seqL s3r)))
noncomputable def s8r : Code := seqR s3r
noncomputable def s9r : Code := seqR s8r
noncomputable def s11r : Code := seqR s9r
noncomputable def lpB : Code := lopC (blkC (seqR (seqL s11r)))
noncomputable def s17r : Code := seqR s11r
noncomputable def inA : Code := blkC (seqL (seqR lpA))
noncomputable def inB : Code := blkC (seqL (seqR lpB))
noncomputable def opsY (i : Nat) : Array Oper := match i with
  | 0 => opsC (seqL body6)
  | 1 => opsC (seqL (seqR body6))
  | 2 => opsC (seqL (seqR (seqR body6)))
  | 3 => opsC (seqL (seqL s3r))
  | 4 => opsC (seqL (seqL lpA))
  | 5 => opsC (seqR (seqR lpA))
  | 6 => opsC (seqL inA)
  | 7 => opsC (seqR inA)
  | 8 => opsC (seqL s8r)
  | 9 => opsC (seqL (seqL s9r))
  | 10 => opsC (match seqR (seqL s9r) with | .cond _ (.seq a _) _ => a | c => c)
  | 11 => opsC (seqL (seqL s11r))
  | 12 => opsC (seqL (seqL lpB))
  | 13 => opsC (seqR (seqR lpB))
  | 14 => opsC (seqL inB)
  | 15 => opsC (seqL (seqR inB))
  | 16 => opsC (match seqR (seqR inB) with | .cond _ (.seq a _) _ => a | c => c)
  | 17 => opsC (seqL s17r)
  | 18 => opsC (seqL (seqR s17r))
  | _ => #[]
theorem body6_is : body6 = .seq (.region 0 (opsY 0) false) (.seq (.region 1 (opsY 1) false) (.seq (.region 2 (opsY 2) false) (.seq (.seq (.region 3 (opsY 3) false) (.block 0 (.loop lpA))) (.seq (.region 8 (opsY 8) false) (.seq (.seq (.region 9 (opsY 9) false) (.cond (.tmp 61) (.seq (.region 10 (opsY 10) false) .ret) .skip))
    (.seq (.seq (.region 11 (opsY 11) false) (.block 2 (.loop lpB))) (.seq (.region 17 (opsY 17) false) (.seq (.region 18 (opsY 18) false) .ret)))))))) := rfl
theorem lpA_is : lpA = .seq (.seq (.region 4 (opsY 4) false) (.cond (.tmp 28) .skip (.exit 0))) (.seq (.block 1 (.seq (.region 6 (opsY 6) false) (.region 7 (opsY 7) false))) (.region 5 (opsY 5) false)) := rfl
theorem lpB_is : lpB = .seq (.seq (.region 12 (opsY 12) false) (.cond (.tmp 65) .skip (.exit 2))) (.seq (.block 3 (.seq (.region 14 (opsY 14) true) (.seq (.region 15 (opsY 15) false) (.cond (.tmp 90) (.seq (.region 16 (opsY 16) false) .ret) .skip)))) (.region 13 (opsY 13) false)) := rfl
theorem sizeY0 : (opsY 0).size = 1 := by kernel_rfl
theorem sizeY1 : (opsY 1).size = 1 := by kernel_rfl
theorem sizeY2 : (opsY 2).size = 1 := by kernel_rfl
theorem sizeY3 : (opsY 3).size = 1 := by kernel_rfl
theorem sizeY4 : (opsY 4).size = 14 := by kernel_rfl
theorem sizeY5 : (opsY 5).size = 3 := by kernel_rfl
theorem sizeY6 : (opsY 6).size = 9 := by kernel_rfl
theorem sizeY7 : (opsY 7).size = 9 := by kernel_rfl
theorem sizeY8 : (opsY 8).size = 8 := by kernel_rfl
theorem sizeY9 : (opsY 9).size = 9 := by kernel_rfl
theorem sizeY11 : (opsY 11).size = 1 := by kernel_rfl
theorem sizeY12 : (opsY 12).size = 4 := by kernel_rfl
theorem sizeY13 : (opsY 13).size = 3 := by kernel_rfl
theorem sizeY14 : (opsY 14).size = 14 := by kernel_rfl
theorem sizeY15 : (opsY 15).size = 11 := by kernel_rfl
theorem sizeY17 : (opsY 17).size = 9 := by kernel_rfl
theorem sizeY18 : (opsY 18).size = 15 := by kernel_rfl
theorem okY4 : (opsY 4).all (okO Try.prog S1 V1) = true := by kernel_rfl
theorem okY6 : (opsY 6).all (okO Try.prog S1 V1) = true := by kernel_rfl
theorem okY7 : (opsY 7).all (okO Try.prog S1 V1) = true := by kernel_rfl
theorem okY9 : (opsY 9).all (okO Try.prog S1 V1) = true := by kernel_rfl
theorem okY15 : (opsY 15).all (okO Try.prog S1 V1) = true := by kernel_rfl
theorem okY18 : (opsY 18).all (okO Try.prog S1 V1) = true := by kernel_rfl
theorem eg14 : ∀ args w, (callFunc 14 args).run Try.prog w = .ok (.enter 14 args) w := enters_of Try.func14 (by kernel_rfl) rfl
theorem eg16 : ∀ args w, (callFunc 16 args).run Try.prog w = .ok (.enter 16 args) w := enters_of Try.func16 (by kernel_rfl) rfl
theorem eg18 : ∀ args w, (callFunc 18 args).run Try.prog w = .ok (.enter 18 args) w := enters_of Try.func18 (by kernel_rfl) rfl
def dY (j : Nat) : Nat := [69, 70, 71, 72, 73, 74, 75, 76, 77, 68, 78, 79, 11, 12].getD j 0
theorem lowY : ((List.range 14).all fun i => match (opsY 14)[i]? with | some o => o.after.all (fun e => !Region.binds .any e || decide (e.on < i)) | none => true) = true := by kernel_rfl
theorem pairY : PairC (opsY 14) 5 10 6 17 dY :=
  { size := sizeY14, sink := by kernel_rfl, low := lt_of sizeY14 lowY, ok := by kernel_rfl
    o0 := ⟨(opsY 14)[0]'(by rw [sizeY14]; decide), rfl, rfl, rfl, .inl rfl⟩, o1 := ⟨(opsY 14)[1]'(by rw [sizeY14]; decide), rfl, rfl, rfl, .inl rfl⟩, o2 := ⟨(opsY 14)[2]'(by rw [sizeY14]; decide), rfl, rfl, rfl, rfl⟩, o3 := ⟨(opsY 14)[3]'(by rw [sizeY14]; decide), rfl, rfl, rfl, rfl⟩
    o4 := ⟨(opsY 14)[4]'(by rw [sizeY14]; decide), rfl, rfl, rfl, .inl rfl⟩, o5 := ⟨(opsY 14)[5]'(by rw [sizeY14]; decide), rfl, rfl, rfl, .inl rfl⟩, o6 := ⟨(opsY 14)[6]'(by rw [sizeY14]; decide), rfl, rfl, rfl, rfl⟩, o7 := ⟨(opsY 14)[7]'(by rw [sizeY14]; decide), rfl, rfl, rfl, rfl⟩
    o8 := ⟨(opsY 14)[8]'(by rw [sizeY14]; decide), rfl, rfl, rfl, rfl⟩, o9 := ⟨(opsY 14)[9]'(by rw [sizeY14]; decide), rfl, rfl, rfl, .inl rfl⟩, o10 := ⟨(opsY 14)[10]'(by rw [sizeY14]; decide), rfl, rfl, rfl, rfl⟩, o11 := ⟨(opsY 14)[11]'(by rw [sizeY14]; decide), rfl, rfl, rfl, rfl⟩
    o12 := ⟨(opsY 14)[12]'(by rw [sizeY14]; decide), rfl, rfl, rfl, .inr rfl⟩, o13 := ⟨(opsY 14)[13]'(by rw [sizeY14]; decide), rfl, rfl, rfl, .inr rfl⟩
    w20 := by kernel_rfl, w21 := by kernel_rfl, w32 := by kernel_rfl, w64 := by kernel_rfl, w65 := by kernel_rfl, w76 := by kernel_rfl, w83 := by kernel_rfl, w87 := by kernel_rfl, w98 := by kernel_rfl, wA9 := by kernel_rfl, wB9 := by kernel_rfl, wCA := by kernel_rfl
    call := enters_of Try.func17 (by kernel_rfl) rfl, mixed := mixed, inj := by decide, src := by decide }
end Go.Proofs.Ytcobehkadhcjiaa

/-
  keep.CrewShares: the test of its first loop.
-/
namespace Go.Proofs.Ytcobehkadhcjiaa
open Go Go.Conc Go.ConcN Go.Conc.Lib Go.RowKit Go.Shelf
open Go.ConcR (Payload)
variable [Shift] [Payload]

set_option maxHeartbeats 1000000 in
theorem testA_mj (hP : OkP Try.prog S1 V1) {L : WgLink} {ρ : Rj} {kk : List Item} {cs : List Frame} {t : Array Value} {w : World} (pa : Option Addr) (n ca : Nat) (pb : Option Addr) (m cb k : Nat) (tv uv : Value)
    (hS : Sl t 112 [(0, .slice pa n ca), (1, .slice pb m cb), (4, .bool false), (5, tv), (6, uv), (7, .int .i64 k)])
    (K : ∀ (t' : Array Value) (U : Tape'), Sl t' 112 [(0, .slice pa n ca), (1, .slice pb m cb), (4, .bool false), (5, tv), (6, uv), (7, .int .i64 k), (28, .bool (decide (k < n ∧ k < m ∧ k < 12)))] → MJ Try.prog L S1 V1 ρ (bare 6 t') [] kk cs (onT w U)) :
    MJ Try.prog L S1 V1 ρ (bare 6 t) [] (.code (.region 4 (opsY 4) false) :: kk) cs w := by
  refine MJ.reg (r := [0, 1, 2, 3, 4, 5, 6, 7, 8, 9, 10, 11, 12, 13]) (by rw [sizeY4]; rfl) ?_
  refine MJ.fragR hP okY4 fun T => ?_
  have HK := hid (show ∀ (t' : Array Value) (U : Tape'), Sl t' 112 [(0, .slice pa n ca), (1, .slice pb m cb), (4, .bool false), (5, tv), (6, uv), (7, .int .i64 k), (28, .bool (decide (k < n ∧ k < m ∧ k < 12)))] → MJ Try.prog L S1 V1 ρ (bare 6 t') [] kk cs (onT (retape w T) U) from fun t' U h => K t' U h)
  clear K
  refine wo_vl hS (o := (opsY 4)[0]'(by rw [sizeY4]; decide)) 15 (.int .i64 k) rfl rfl rfl (by omega) (run_mv (x := .tmp 7) (.inl rfl) (hS.ev (by simp))) fun t1 h1 => ?_
  refine wo_vl h1 (o := (opsY 4)[1]'(by rw [sizeY4]; decide)) 16 (.slice pa n ca) rfl rfl rfl (by omega) (run_mv (x := .tmp 0) (.inl rfl) (h1.ev (by simp [setS]))) fun t2 h2 => ?_
  refine wo_vl h2 (o := (opsY 4)[2]'(by rw [sizeY4]; decide)) 17 (.int .i64 n) rfl rfl rfl (by omega) (run_len (x := .tmp 16) (ty := 22) (el := 3) rfl Try.underlying22 pa n ca (h2.ev (by simp [setS]))) fun t3 h3 => ?_
  refine wo_vl h3 (o := (opsY 4)[3]'(by rw [sizeY4]; decide)) 18 (.bool (decide ((k : Int) < (n : Int)))) rfl rfl rfl (by omega) (run_lss (x := .tmp 15) (y := .tmp 17) rfl k n (h3.ev (by simp [setS])) (h3.ev (by simp [setS]))) fun t4 h4 => ?_
  refine wo_vl h4 (o := (opsY 4)[4]'(by rw [sizeY4]; decide)) 19 (.bool (decide ((k : Int) < (n : Int)))) rfl rfl rfl (by omega) (run_mv (x := .tmp 18) (.inl rfl) (h4.ev (by simp [setS]))) fun t5 h5 => ?_
  by_cases c1 : k < n
  · rw [show decide ((k : Int) < (n : Int)) = true by simp; omega] at h5
    refine wo_vl h5 (o := (opsY 4)[5]'(by rw [sizeY4]; decide)) 20 (.int .i64 k) rfl (wanted_of (o1 := (opsY 4)[4]'(by rw [sizeY4]; decide)) rfl rfl rfl (h5.get (by simp [setS]))) rfl (by omega) (run_mv (x := .tmp 7) (.inl rfl) (h5.ev (by simp [setS]))) fun t6 h6 => ?_
    refine wo_vl h6 (o := (opsY 4)[6]'(by rw [sizeY4]; decide)) 21 (.slice pb m cb) rfl (wanted_of (o1 := (opsY 4)[4]'(by rw [sizeY4]; decide)) rfl rfl rfl (h6.get (by simp [setS]))) rfl (by omega) (run_mv (x := .tmp 1) (.inl rfl) (h6.ev (by simp [setS]))) fun t7 h7 => ?_
    refine wo_vl h7 (o := (opsY 4)[7]'(by rw [sizeY4]; decide)) 22 (.int .i64 m) rfl (wanted_of (o1 := (opsY 4)[4]'(by rw [sizeY4]; decide)) rfl rfl rfl (h7.get (by simp [setS]))) rfl (by omega) (run_len (x := .tmp 21) (ty := 23) (el := 22) rfl Try.underlying23 pb m cb (h7.ev (by simp [setS]))) fun t8 h8 => ?_
    refine wo_vl h8 (o := (opsY 4)[8]'(by rw [sizeY4]; decide)) 23 (.bool (decide ((k : Int) < (m : Int)))) rfl (wanted_of (o1 := (opsY 4)[4]'(by rw [sizeY4]; decide)) rfl rfl rfl (h8.get (by simp [setS]))) rfl (by omega) (run_lss (x := .tmp 20) (y := .tmp 22) rfl k m (h8.ev (by simp [setS])) (h8.ev (by simp [setS]))) fun t9 h9 => ?_
    refine wo_vl h9 (o := (opsY 4)[9]'(by rw [sizeY4]; decide)) 24 (.bool (decide ((k : Int) < (m : Int)))) rfl rfl rfl (by omega) (run_pick (c := .tmp 19) (x := .tmp 23) (y := .const (.bool false)) rfl (h9.ev (by simp [setS])) (h9.ev (by simp [setS]))) fun ta ha => ?_
    by_cases c2 : k < m
    · rw [show decide ((k : Int) < (m : Int)) = true by simp; omega] at ha
      refine wo_vl ha (o := (opsY 4)[10]'(by rw [sizeY4]; decide)) 25 (.bool true) rfl rfl rfl (by omega) (run_mv (x := .tmp 24) (.inl rfl) (ha.ev (by simp [setS]))) fun tb hb => ?_
      refine wo_vl hb (o := (opsY 4)[11]'(by rw [sizeY4]; decide)) 26 (.int .i64 k) rfl (wanted_of (o1 := (opsY 4)[10]'(by rw [sizeY4]; decide)) rfl rfl rfl (hb.get (by simp [setS]))) rfl (by omega) (run_mv (x := .tmp 7) (.inl rfl) (hb.ev (by simp [setS]))) fun tc hc => ?_
      refine wo_vl hc (o := (opsY 4)[12]'(by rw [sizeY4]; decide)) 27 (.bool (decide ((k : Int) < 12))) rfl (wanted_of (o1 := (opsY 4)[10]'(by rw [sizeY4]; decide)) rfl rfl rfl (hc.get (by simp [setS]))) rfl (by omega) (run_lss (x := .tmp 26) (y := .const (.int .i64 12)) rfl k 12 (hc.ev (by simp [setS])) rfl) fun td hd => ?_
      refine wo_vl hd (o := (opsY 4)[13]'(by rw [sizeY4]; decide)) 28 (.bool (decide ((k : Int) < 12))) rfl rfl rfl (by omega) (run_pick (c := .tmp 25) (x := .tmp 27) (y := .const (.bool false)) rfl (hd.ev (by simp [setS])) (hd.ev (by simp [setS]))) fun te he => ?_
      refine wo_nil ⟨rfl, rfl, fun U => HK.out _ U ?_⟩
      rw [show decide (k < n ∧ k < m ∧ k < 12) = decide ((k : Int) < 12) by rw [decide_eq_decide]; omega]
      exact he.sub (by simp [setS])
    · rw [show decide ((k : Int) < (m : Int)) = false by simp; omega] at ha
      refine wo_vl ha (o := (opsY 4)[10]'(by rw [sizeY4]; decide)) 25 (.bool false) rfl rfl rfl (by omega) (run_mv (x := .tmp 24) (.inl rfl) (ha.ev (by simp [setS]))) fun tb hb => ?_
      refine wo_sk hb (o := (opsY 4)[11]'(by rw [sizeY4]; decide)) 26 rfl (unwanted_of (o1 := (opsY 4)[10]'(by rw [sizeY4]; decide)) rfl rfl rfl (hb.get (by simp [setS]))) rfl (by omega) fun tc hc => ?_
      refine wo_sk hc (o := (opsY 4)[12]'(by rw [sizeY4]; decide)) 27 rfl (unwanted_of (o1 := (opsY 4)[10]'(by rw [sizeY4]; decide)) rfl rfl rfl (hc.get (by simp [setS]))) rfl (by omega) fun td hd => ?_
      refine wo_vl hd (o := (opsY 4)[13]'(by rw [sizeY4]; decide)) 28 (.bool false) rfl rfl rfl (by omega) (run_pickF (c := .tmp 25) (x := .tmp 27) (y := .const (.bool false)) rfl (hd.ev (by simp [setS])) rfl) fun te he => ?_
      refine wo_nil ⟨rfl, rfl, fun U => HK.out _ U ?_⟩
      rw [show decide (k < n ∧ k < m ∧ k < 12) = false by simp; omega]
      exact he.sub (by simp [setS])
  · rw [show decide ((k : Int) < (n : Int)) = false by simp; omega] at h5
    refine wo_sk h5 (o := (opsY 4)[5]'(by rw [sizeY4]; decide)) 20 rfl (unwanted_of (o1 := (opsY 4)[4]'(by rw [sizeY4]; decide)) rfl rfl rfl (h5.get (by simp [setS]))) rfl (by omega) fun t6 h6 => ?_
    refine wo_sk h6 (o := (opsY 4)[6]'(by rw [sizeY4]; decide)) 21 rfl (unwanted_of (o1 := (opsY 4)[4]'(by rw [sizeY4]; decide)) rfl rfl rfl (h6.get (by simp [setS]))) rfl (by omega) fun t7 h7 => ?_
    refine wo_sk h7 (o := (opsY 4)[7]'(by rw [sizeY4]; decide)) 22 rfl (unwanted_of (o1 := (opsY 4)[4]'(by rw [sizeY4]; decide)) rfl rfl rfl (h7.get (by simp [setS]))) rfl (by omega) fun t8 h8 => ?_
    refine wo_sk h8 (o := (opsY 4)[8]'(by rw [sizeY4]; decide)) 23 rfl (unwanted_of (o1 := (opsY 4)[4]'(by rw [sizeY4]; decide)) rfl rfl rfl (h8.get (by simp [setS]))) rfl (by omega) fun t9 h9 => ?_
    refine wo_vl h9 (o := (opsY 4)[9]'(by rw [sizeY4]; decide)) 24 (.bool false) rfl rfl rfl (by omega) (run_pickF (c := .tmp 19) (x := .tmp 23) (y := .const (.bool false)) rfl (h9.ev (by simp [setS])) rfl) fun ta ha => ?_
    refine wo_vl ha (o := (opsY 4)[10]'(by rw [sizeY4]; decide)) 25 (.bool false) rfl rfl rfl (by omega) (run_mv (x := .tmp 24) (.inl rfl) (ha.ev (by simp [setS]))) fun tb hb => ?_
    refine wo_sk hb (o := (opsY 4)[11]'(by rw [sizeY4]; decide)) 26 rfl (unwanted_of (o1 := (opsY 4)[10]'(by rw [sizeY4]; decide)) rfl rfl rfl (hb.get (by simp [setS]))) rfl (by omega) fun tc hc => ?_
    refine wo_sk hc (o := (opsY 4)[12]'(by rw [sizeY4]; decide)) 27 rfl (unwanted_of (o1 := (opsY 4)[10]'(by rw [sizeY4]; decide)) rfl rfl rfl (hc.get (by simp [setS]))) rfl (by omega) fun td hd => ?_
    refine wo_vl hd (o := (opsY 4)[13]'(by rw [sizeY4]; decide)) 28 (.bool false) rfl rfl rfl (by omega) (run_pickF (c := .tmp 25) (x := .tmp 27) (y := .const (.bool false)) rfl (hd.ev (by simp [setS])) rfl) fun te he => ?_
    refine wo_nil ⟨rfl, rfl, fun U => HK.out _ U ?_⟩
    rw [show decide (k < n ∧ k < m ∧ k < 12) = false by simp; omega]
    exact he.sub (by simp [setS])
end Go.Proofs.Ytcobehkadhcjiaa
