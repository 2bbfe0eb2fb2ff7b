/-
  Goroutines among others: part 33 of what the law's own text rests on.
-/
import Derived.Test.YtcobehkadhcjiaaCc32
/-
  law.CrewSplits: the first's tree.
-/
namespace Go.Proofs.Ytcobehkadhcjiaa
open Go Go.Conc Go.ConcN Go.Conc.Lib Go.RowKit Go.Shelf
open Go.ConcR (Payload)

theorem run_eql24 {e : Operand → Value} {w : World} {o : Oper} {x y : Operand} (ho : o.op = .binOp .eql 24 x y 24) (i j : Int) (h1 : e x = .int .i64 i) (h2 : e y = .int .i64 j) : (execOp e o).run Try.prog w = .ok (.value (.bool (i == j))) w := by
  unfold execOp
  rw [ho]
  simp only [h1, h2]
  simp [go_sem]
theorem run_pick {P : Program} {e : Operand → Value} {w : World} {o : Oper} {c x y : Operand} {v : Value} (ho : o.op = .pick c x y) (h1 : e c = .bool true) (h2 : e x = v) : (execOp e o).run P w = .ok (.value v) w := by
  unfold execOp
  rw [ho]
  simp [h1, h2, asBool]
theorem wanted_of {ops : Array Oper} {t : Array Value} {o o1 : Oper} {j d : Nat} {q : Bool} (hg : o.guard = some (j, q)) (hj : ops[j]? = some o1) (hd : o1.dst = some d) (hv : t[d]? = some (.bool q)) : Region.wanted o (yielded ops t) = true := by
  unfold Region.wanted
  rw [hg]
  unfold yielded
  simp [hj, hd, hv]

namespace law
theorem same_out {ts : List Int} {ws : List (List Int)} {r q : Value} {w : World} (h1 : OutD ts ws w r) (h2 : OutD ts ws w q) : Calls Try.prog 9 #[r, q] w fun e w' => e = .returned (.bool true) ∧ ∃ n, w' = w.drewN n := by
  by_cases h0 : splE ts ws = 0
  · obtain ⟨p1, c1, rfl, t1⟩ := h1.2 h0
    obtain ⟨p2, c2, rfl, t2⟩ := h2.2 h0
    have hl : ts.length ≤ 200 := by
      unfold splE at h0
      split at h0
      · cases h0
      · omega
    rw [← spR_len ts ws]
    exact table_any p1 p2 c1 c2 (spR ts ws) (by rw [spR_len]; exact hl) (fun j hj => by rw [spR_at (by rw [spR_len] at hj; exact hj)]; exact Bo.Plain.splitV_len _ _) w t1 t2
  · rw [h1.1 h0, h2.1 h0]
    exact table_nil none none 0 0 w
end law
theorem OutD.kc {ts : List Int} {ws : List (List Int)} {w w1 : World} {r : Value} (h : OutD ts ws w r) (k : Kc w w1) : OutD ts ws w1 r := ⟨h.1, fun e => by
  obtain ⟨p, c, h1, h2⟩ := h.2 e
  exact ⟨p, c, h1, h2.kc k⟩⟩

noncomputable def body3 : Code := Try.f3.body.getD .skip
noncomputable def opsQ (i : Nat) : Array Oper := match i with
  | 0 => opsC (seqL body3)
  | 1 => opsC (seqL (seqR body3))
  | 2 => opsC (seqL (seqR (seqR body3)))
  | 3 => opsC (seqL (seqR (seqR (seqR body3))))
  | _ => #[]
theorem body3_is : body3 = .seq (.region 0 (opsQ 0) false) (.seq (.region 1 (opsQ 1) false) (.seq (.region 2 (opsQ 2) false) (.seq (.region 3 (opsQ 3) false) .ret))) := rfl
theorem sizeQ0 : (opsQ 0).size = 1 := by kernel_rfl
theorem sizeQ1 : (opsQ 1).size = 8 := by kernel_rfl
theorem sizeQ2 : (opsQ 2).size = 8 := by kernel_rfl
theorem sizeQ3 : (opsQ 3).size = 9 := by kernel_rfl
theorem okQ3 : (opsQ 3).all (okO Try.prog S1 V1) = true := by kernel_rfl
theorem run_enter {P : Program} {o : Oper} {g : FuncId} {fn : Func} {c : Code} {xs : Array Operand} {tys : Array TypeId} (ho : o.op = .call { callee := .value (.func g), args := xs, argTypes := tys }) (hf : P.funcs[g]? = some fn) (hn : (fn.name == "runtime.NumGoroutine") = false) (hb : fn.body = some c) (e : Act) (w : World) (es : Array Event) :
    (execOp e.eval o).run P w = .ok (.enter g (xs.map e.eval)) w ∧ (execOp e.eval o).events P w es = es := by
  have e0 : e.eval (.func g) = .func (.func g) #[] #[] := rfl
  have n0 : ¬ fn.name = "runtime.NumGoroutine" := by simpa using hn
  constructor
  · unfold execOp
    rw [ho]
    simp [resolve, Deferred.ofValue, invoke, e0, callFunc, hf, n0, hb]
  · unfold execOp
    rw [ho]
    simp [resolve, Deferred.ofValue, invoke, e0, callFunc, hf, n0, hb]
theorem name7 : (Try.f7.name == "runtime.NumGoroutine") = false := by kernel_rfl
theorem name8 : (Try.f8.name == "runtime.NumGoroutine") = false := by kernel_rfl
theorem eg9 : ∀ args w, (callFunc 9 args).run Try.prog w = .ok (.enter 9 args) w := enters_of Try.func9 (by kernel_rfl) rfl
theorem frame7 (va vb : Value) : (#[va, vb] ++ Array.replicate (Try.f7.ntmps - 2) undef : Array Value) = #[va, vb, undef, undef, undef, undef, undef, undef, undef, undef, undef, undef, undef, undef, undef, undef, undef, undef, undef, undef, undef, undef, undef, undef, undef, undef, undef, undef, undef, undef, undef, undef, undef, undef, undef, undef, undef, undef, undef, undef, undef, undef, undef, undef, undef] := by kernel_rfl
theorem frame8 (va vb : Value) : (#[va, vb] ++ Array.replicate (Try.f8.ntmps - 2) undef : Array Value) = #[va, vb, undef, undef, undef, undef, undef, undef, undef, undef, undef, undef, undef, undef, undef, undef, undef, undef, undef, undef, undef, undef, undef, undef, undef, undef, undef, undef, undef, undef, undef, undef, undef, undef, undef, undef, undef, undef, undef, undef, undef, undef, undef, undef, undef, undef] := by kernel_rfl

variable [Shift] [Payload]
set_option maxHeartbeats 800000 in
theorem law_mj (hP : OkP Try.prog S1 V1) {post : Value → World → Prop} (t : Array Value) (w : World) (pa : Option Addr) (n ca : Nat) (pb : Option Addr) (m cb : Nat) (ts : List Int) (ws : List (List Int)) (hts : ts.length = n) (hws : ws.length = m) (hseg : Seg w (.slice pa n ca) ts) (htab : TabW w pb ws)
    (hbig : ∀ j, (ws.getD j []).length ≤ 9223372036854775807) (hlow : Shift.n ≤ w.heap.size) (hpay : Payload.ety = 24) (hz : t.size = 29) (h0 : t[0]? = some (.slice pa n ca)) (h1 : t[1]? = some (.slice pb m cb)) (hpost : ∀ w', post (.bool true) w') :
    MJ Try.prog wgL S1 V1 (.main post ⟨none, false, none, []⟩) (bare 3 t) [] [.code body3] [] w := by
  have hS : Sl t 29 [(0, .slice pa n ca), (1, .slice pb m cb)] := ⟨hz, fun p hp => by
    simp only [List.mem_cons, List.not_mem_nil, or_false] at hp
    rcases hp with rfl | rfl
    · exact h0
    · exact h1⟩
  rw [body3_is]
  refine MJ.seq (MJ.reg (r := [0]) (by rw [sizeQ0]; rfl) ?_)
  refine MJ.cst hS (o := (opsQ 0)[0]'(by rw [sizeQ0]; decide)) 4 (.bool false) rfl (.inr rfl) rfl rfl (by omega) rfl fun t1 U1 hS1 => MJ.regE ?_
  refine MJ.seq (MJ.reg (r := [0, 1, 2, 3, 4, 5, 6, 7]) (by rw [sizeQ1]; rfl) ?_)
  refine MJ.mv hS1 (o := (opsQ 1)[0]'(by rw [sizeQ1]; decide)) 0 10 (.slice pa n ca) rfl (.inl rfl) rfl rfl (by omega) (by simp [setS]) fun t2 U2 hS2 => ?_
  refine MJ.mv hS2 (o := (opsQ 1)[1]'(by rw [sizeQ1]; decide)) 1 11 (.slice pb m cb) rfl (.inl rfl) rfl rfl (by omega) (by simp [setS]) fun t3 U3 hS3 => ?_
  obtain ⟨wb, hwb⟩ : ∃ wb, wb = onT (onT (onT w U1) U2) U3 := ⟨_, rfl⟩
  have kb : Kc w wb := Kc.heap (by rw [hwb]; rfl)
  rw [← hwb]
  clear hwb
  refine MJ.enter (o := (opsQ 1)[2]'(by rw [sizeQ1]; decide)) (h := 7) (xs := #[.tmp 10, .tmp 11]) (fn := Try.f7) (c := body7) rfl rfl (by kernel_rfl) Try.func7 rfl (run_enter rfl Try.func7 name7 rfl) ?_
  have exs : (#[Operand.tmp 10, .tmp 11] : Array Operand).map (Act.eval ⟨t3, []⟩) = #[.slice pa n ca, .slice pb m cb] := by
    have q1 := hS3.ev (s := 10) (v := .slice pa n ca) (by simp [setS])
    have q2 := hS3.ev (s := 11) (v := .slice pb m cb) (by simp [setS])
    simp only [List.map_toArray, List.map_cons, List.map_nil, q1, q2]
  rw [exs, show (#[Operand.tmp 10, .tmp 11] : Array Operand).size = 2 from rfl, frame7]
  refine splits_mj hP pa n ca pb m cb ts ws wb hts hws (hseg.kc kb) (htab.kc kb) hbig (Nat.le_trans hlow kb.size) hpay fun t4 w4 r z4 e4 e5 hO k4 => ?_
  refine MJ.ret (fn := Try.f7) (v := .tuple #[r, .int .i64 (splE ts ws)]) (o := (opsQ 1)[2]'(by rw [sizeQ1]; decide)) Try.func7 (fun w0 => ?_) rfl ?_
  · have g2 : t4.getD 4 undef = r := by rw [Array.getD_eq_getD_getElem?, e4]; rfl
    have g3 : t4.getD 5 undef = .int .i64 (splE ts ws) := by rw [Array.getD_eq_getD_getElem?, e5]; rfl
    rw [results_tmp2 (fn := Try.f7) (t := 4) (u := 5) rfl, g2, g3]
  have hS4 := hS3.put (d := 12) (by omega) (.tuple #[r, .int .i64 (splE ts ws)])
  refine MJ.mv hS4 (o := (opsQ 1)[3]'(by rw [sizeQ1]; decide)) 12 9 (.tuple #[r, .int .i64 (splE ts ws)]) rfl (.inl rfl) rfl rfl (by omega) (by simp [setS]) fun t5 U5 hS5 => ?_
  refine MJ.vl hS5 (o := (opsQ 1)[4]'(by rw [sizeQ1]; decide)) 13 r rfl rfl rfl (by omega) (by kernel_rfl) (fun T => run_ext (x := .tmp 9) (i := 0) rfl #[r, .int .i64 (splE ts ws)] r (hS5.ev (by simp [setS])) rfl) fun t6 U6 hS6 => ?_
  refine MJ.vl hS6 (o := (opsQ 1)[5]'(by rw [sizeQ1]; decide)) 14 (.int .i64 (splE ts ws)) rfl rfl rfl (by omega) (by kernel_rfl) (fun T => run_ext (x := .tmp 9) (i := 1) rfl #[r, .int .i64 (splE ts ws)] _ (hS6.ev (by simp [setS])) rfl) fun t7 U7 hS7 => ?_
  refine MJ.mv hS7 (o := (opsQ 1)[6]'(by rw [sizeQ1]; decide)) 13 5 r rfl (.inr rfl) rfl rfl (by omega) (by simp [setS]) fun t8 U8 hS8 => ?_
  refine MJ.mv hS8 (o := (opsQ 1)[7]'(by rw [sizeQ1]; decide)) 14 6 (.int .i64 (splE ts ws)) rfl (.inr rfl) rfl rfl (by omega) (by simp [setS]) fun t9 U9 hS9 => MJ.regE ?_
  have hS9' : Sl t9 29 [(0, .slice pa n ca), (1, .slice pb m cb), (5, r), (6, .int .i64 (splE ts ws))] := hS9.sub (by simp [setS])
  clear hS hS1 hS2 hS3 hS4 hS5 hS6 hS7 hS8 hS9
  refine MJ.seq (MJ.reg (r := [0, 1, 2, 3, 4, 5, 6, 7]) (by rw [sizeQ2]; rfl) ?_)
  refine MJ.mv hS9' (o := (opsQ 2)[0]'(by rw [sizeQ2]; decide)) 0 16 (.slice pa n ca) rfl (.inl rfl) rfl rfl (by omega) (by simp) fun tA UA hSA => ?_
  refine MJ.mv hSA (o := (opsQ 2)[1]'(by rw [sizeQ2]; decide)) 1 17 (.slice pb m cb) rfl (.inl rfl) rfl rfl (by omega) (by simp [setS]) fun tB UB hSB => ?_
  obtain ⟨wc, hwc⟩ : ∃ wc, wc = onT (onT (onT (onT (onT (onT (onT w4 U5) U6) U7) U8) U9) UA) UB := ⟨_, rfl⟩
  have k4c : Kc w4 wc := Kc.heap (by rw [hwc]; rfl)
  have kc : Kc w wc := (kb.trans k4).trans k4c
  rw [← hwc]
  clear hwc
  refine MJ.enter (o := (opsQ 2)[2]'(by rw [sizeQ2]; decide)) (h := 8) (xs := #[.tmp 16, .tmp 17]) (fn := Try.f8) (c := body8) rfl rfl (by kernel_rfl) Try.func8 rfl (run_enter rfl Try.func8 name8 rfl) ?_
  have exs2 : (#[Operand.tmp 16, .tmp 17] : Array Operand).map (Act.eval ⟨tB, []⟩) = #[.slice pa n ca, .slice pb m cb] := by
    have q1 := hSB.ev (s := 16) (v := .slice pa n ca) (by simp [setS])
    have q2 := hSB.ev (s := 17) (v := .slice pb m cb) (by simp [setS])
    simp only [List.map_toArray, List.map_cons, List.map_nil, q1, q2]
  rw [exs2, show (#[Operand.tmp 16, .tmp 17] : Array Operand).size = 2 from rfl, frame8]
  refine ref_mj hP pa n ca pb m cb ts ws wc hts hws (hseg.kc kc) (htab.kc kc) hbig fun tC w5 q zC f4 f5 hQ k5 => ?_
  refine MJ.ret (fn := Try.f8) (v := .tuple #[q, .int .i64 (splE ts ws)]) (o := (opsQ 2)[2]'(by rw [sizeQ2]; decide)) Try.func8 (fun w0 => ?_) rfl ?_
  · have g2 : tC.getD 4 undef = q := by rw [Array.getD_eq_getD_getElem?, f4]; rfl
    have g3 : tC.getD 5 undef = .int .i64 (splE ts ws) := by rw [Array.getD_eq_getD_getElem?, f5]; rfl
    rw [results_tmp2 (fn := Try.f8) (t := 4) (u := 5) rfl, g2, g3]
  have hSC := hSB.put (d := 18) (by omega) (.tuple #[q, .int .i64 (splE ts ws)])
  refine MJ.mv hSC (o := (opsQ 2)[3]'(by rw [sizeQ2]; decide)) 18 15 (.tuple #[q, .int .i64 (splE ts ws)]) rfl (.inl rfl) rfl rfl (by omega) (by simp [setS]) fun tD UD hSD => ?_
  refine MJ.vl hSD (o := (opsQ 2)[4]'(by rw [sizeQ2]; decide)) 19 q rfl rfl rfl (by omega) (by kernel_rfl) (fun T => run_ext (x := .tmp 15) (i := 0) rfl #[q, .int .i64 (splE ts ws)] q (hSD.ev (by simp [setS])) rfl) fun tE UE hSE => ?_
  refine MJ.vl hSE (o := (opsQ 2)[5]'(by rw [sizeQ2]; decide)) 20 (.int .i64 (splE ts ws)) rfl rfl rfl (by omega) (by kernel_rfl) (fun T => run_ext (x := .tmp 15) (i := 1) rfl #[q, .int .i64 (splE ts ws)] _ (hSE.ev (by simp [setS])) rfl) fun tF UF hSF => ?_
  refine MJ.mv hSF (o := (opsQ 2)[6]'(by rw [sizeQ2]; decide)) 19 7 q rfl (.inr rfl) rfl rfl (by omega) (by simp [setS]) fun tG UG hSG => ?_
  refine MJ.mv hSG (o := (opsQ 2)[7]'(by rw [sizeQ2]; decide)) 20 8 (.int .i64 (splE ts ws)) rfl (.inr rfl) rfl rfl (by omega) (by simp [setS]) fun tH UH hSH => MJ.regE ?_
  have hSH' : Sl tH 29 [(5, r), (6, .int .i64 (splE ts ws)), (7, q), (8, .int .i64 (splE ts ws))] := hSH.sub (by simp [setS])
  clear hS9' hSA hSB hSC hSD hSE hSF hSG hSH
  obtain ⟨wd, hwd⟩ : ∃ wd, wd = onT (onT (onT (onT (onT w5 UD) UE) UF) UG) UH := ⟨_, rfl⟩
  have k5d : Kc w5 wd := Kc.heap (by rw [hwd]; rfl)
  have o1 : OutD ts ws wd r := hO.d.kc ((k4c.trans k5.kc).trans k5d)
  have o2 : OutD ts ws wd q := hQ.kc k5d
  rw [← hwd]
  clear hwd hO hQ
  generalize splE ts ws = E at hSH'
  refine MJ.seq (MJ.reg (r := [0, 1, 2, 3, 4, 5, 6, 7, 8]) (by rw [sizeQ3]; rfl) ?_)
  refine MJ.mv hSH' (o := (opsQ 3)[0]'(by rw [sizeQ3]; decide)) 5 21 r rfl (.inl rfl) rfl rfl (by omega) (by simp) fun tI UI hSI => ?_
  refine MJ.mv hSI (o := (opsQ 3)[1]'(by rw [sizeQ3]; decide)) 7 22 q rfl (.inl rfl) rfl rfl (by omega) (by simp [setS]) fun tJ UJ hSJ => ?_
  have a1 : Act.eval ⟨tJ, []⟩ (.tmp 21) = r := hSJ.ev (by simp [setS])
  have a2 : Act.eval ⟨tJ, []⟩ (.tmp 22) = q := hSJ.ev (by simp [setS])
  refine MJ.call (h := 9) (args := #[r, q]) (o := (opsQ 3)[2]'(by rw [sizeQ3]; decide)) hP okQ3 rfl rfl (fun w' => ?_) fun T => ?_
  · rw [run_call (g := 9) (xs := #[.tmp 21, .tmp 22]) (tys := #[23, 23]) rfl rfl eg9]
    simp only [List.map_toArray, List.map_cons, List.map_nil, a1, a2]
  have kJ : Kc wd (retape (onT (onT wd UI) UJ) T) := Kc.heap rfl
  refine (law.same_out (o1.kc kJ) (o2.kc kJ)).mono ?_
  rintro e w6 ⟨rfl, _⟩
  refine ⟨_, rfl, fun UK => ?_⟩
  have hSK := hSJ.put (d := 23) (by omega) (.bool true)
  refine MJ.mv hSK (o := (opsQ 3)[3]'(by rw [sizeQ3]; decide)) 23 24 (.bool true) rfl (.inl rfl) rfl rfl (by omega) (by simp [setS]) fun tL UL hSL => ?_
  have wn : ∀ {t' : Array Value} {l : List (Nat × Value)} (h : Sl t' 29 l) (hm : (24, Value.bool true) ∈ l) {o' : Oper}, o'.guard = some (3, true) → Region.wanted o' (yielded (opsQ 3) t') = true := fun h hm o' hg => wanted_of (o1 := (opsQ 3)[3]'(by rw [sizeQ3]; decide)) hg rfl rfl (h.get hm)
  refine MJ.op (fun _ => some (.int .i64 E)) (fun T => retape (onT (onT w6 UK) UL) T) (o := (opsQ 3)[4]'(by rw [sizeQ3]; decide)) rfl (wn hSL (by simp [setS]) rfl) (by kernel_rfl) (fun T => run_mv (x := .tmp 6) (.inl rfl) (hSL.ev (by simp [setS]))) fun T4 => ?_
  have hSM : Sl _ 29 _ := hSL.put (d := 25) (by omega) (.int .i64 E)
  refine MJ.op (fun _ => some (.int .i64 E)) (fun T => retape _ T) (o := (opsQ 3)[5]'(by rw [sizeQ3]; decide)) rfl (wn hSM (by simp [setS]) rfl) (by kernel_rfl) (fun T => run_mv (x := .tmp 8) (.inl rfl) (hSM.ev (by simp [setS]))) fun T5 => ?_
  have hSN : Sl _ 29 _ := hSM.put (d := 26) (by omega) (.int .i64 E)
  refine MJ.op (fun _ => some (.bool (E == E))) (fun T => retape _ T) (o := (opsQ 3)[6]'(by rw [sizeQ3]; decide)) rfl (wn hSN (by simp [setS]) rfl) (by kernel_rfl) (fun T => run_eql24 (x := .tmp 25) (y := .tmp 26) rfl E E (hSN.ev (by simp [setS])) (hSN.ev (by simp [setS]))) fun T6 => ?_
  have hSO : Sl _ 29 _ := hSN.put (d := 27) (by omega) (.bool (E == E))
  rw [show (E == E) = true by simp] at hSO ⊢
  refine MJ.op (fun _ => some (.bool true)) (fun T => retape _ T) (o := (opsQ 3)[7]'(by rw [sizeQ3]; decide)) rfl rfl (by kernel_rfl) (fun T => run_pick (c := .tmp 24) (x := .tmp 27) (y := .const (.bool false)) rfl (hSO.ev (by simp [setS])) (hSO.ev (by simp [setS]))) fun T7 => ?_
  have hSP : Sl _ 29 _ := hSO.put (d := 28) (by omega) (.bool true)
  refine MJ.mv hSP (o := (opsQ 3)[8]'(by rw [sizeQ3]; decide)) 28 4 (.bool true) rfl (.inr rfl) rfl rfl (by omega) (by simp [setS]) fun tQ UQ hSQ => MJ.regE ?_
  refine MJ.toret (.inr ⟨[], rfl⟩) ?_
  refine MJ.fin (fn := Try.f3) (v := .bool true) Try.func3 (by kernel_rfl) (fun w0 => ?_) (hpost _)
  have g2 : tQ.getD 4 undef = .bool true := by
    have := hSQ.get (s := 4) (v := .bool true) (by simp [setS])
    rw [Array.getD_eq_getD_getElem?, this]
    rfl
  rw [results_tmp (fn := Try.f3) (t := 4) rfl, g2]
end Go.Proofs.Ytcobehkadhcjiaa
