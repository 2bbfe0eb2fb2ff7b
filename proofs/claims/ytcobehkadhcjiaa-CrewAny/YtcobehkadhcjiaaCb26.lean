/-
  Goroutines among others: part 26 of what the law's own text rests on.
-/
import Derived.Test.YtcobehkadhcjiaaCb23
import Derived.Test.YtcobehkadhcjiaaCb24
import Derived.Test.YtcobehkadhcjiaaCb25
/-
  law.CrewMerges: the first's tree.
-/
namespace Go.Proofs.Ytcobehkadhcjiaa
open Go Go.Conc Go.RowKit Go.Sort Go.Shelf

theorem Plain.allA_len (ls : List (List Plain.En)) : (Plain.allA ls).1.length ≤ 8 := by
  unfold Plain.allA Plain.crewA
  split
  · exact Nat.zero_le _
  · split
    · exact Nat.zero_le _
    · split
      · assumption
      · exact Nat.zero_le _

section
variable {P : Program} {ops : Array Oper} {Q : Exit → Act → World → Prop} {i : Nat} {rest : List Nat} {t : Array Value} {w : World} {n : Nat} {l : List (Nat × Value)}
theorem wo_vl (hS : Sl t n l) {o : Oper} (d : Nat) (v : Value) (ho : ops[i]? = some o) (hw : Region.wanted o (yielded ops t) = true) (hd : o.dst = some d) (hn : d < n) (hr : (execOp (Act.eval ⟨t, []⟩) o).run P w = .ok (.value v) w)
    (h : ∀ t', Sl t' n (setS d v l) → wpOps P ops Q rest ⟨t', []⟩ w) : wpOps P ops Q (i :: rest) ⟨t, []⟩ w := by
  unfold wpOps
  rw [ho]
  dsimp only
  rw [if_pos hw]
  left
  unfold Oper.wp
  rw [hr, Oper.upon_value, hd]
  exact h _ (hS.put hn v)
theorem wanted_of {o o1 : Oper} {j d : Nat} {q : Bool} (hg : o.guard = some (j, q)) (hj : ops[j]? = some o1) (hd : o1.dst = some d) (hv : t[d]? = some (.bool q)) : Region.wanted o (yielded ops t) = true := by
  unfold Region.wanted
  rw [hg]
  unfold yielded
  simp [hj, hd, hv]
end

theorem run_mv {P : Program} {e : Operand → Value} {w : World} {o : Oper} {x : Operand} {v : Value} (ho : o.op = .move x ∨ o.op = .assign x) (hv : e x = v) : (execOp e o).run P w = .ok (.value v) w := by
  unfold execOp
  rcases ho with h | h <;> rw [h] <;> simp only [hv] <;> rfl
theorem run_eql {P : Program} {e : Operand → Value} {w : World} {o : Oper} {x y : Operand} {T : TypeId} (ho : o.op = .binOp .eql T x y T) (i j : Int) (h1 : e x = .int .i64 i) (h2 : e y = .int .i64 j) : (execOp e o).run P w = .ok (.value (.bool (i == j))) w := by
  unfold execOp
  rw [ho]
  simp only [h1, h2]
  simp [go_sem]
theorem run_pick {P : Program} {e : Operand → Value} {w : World} {o : Oper} {c x y : Operand} {v : Value} (ho : o.op = .pick c x y) (h1 : e c = .bool true) (h2 : e x = v) : (execOp e o).run P w = .ok (.value v) w := by
  unfold execOp
  rw [ho]
  simp [h1, h2, asBool]

noncomputable def body4 : Code := Try.f4.body.getD .skip
noncomputable def opsL (i : Nat) : Array Oper := match i with
  | 0 => opsC (seqL body4)
  | 1 => opsC (seqL (seqR body4))
  | 2 => opsC (seqL (seqR (seqR body4)))
  | 3 => opsC (seqL (seqR (seqR (seqR body4))))
  | _ => #[]
theorem body4_is : body4 = .seq (.region 0 (opsL 0) false) (.seq (.region 1 (opsL 1) false) (.seq (.region 2 (opsL 2) false) (.seq (.region 3 (opsL 3) false) .ret))) := rfl
theorem sizeL0 : (opsL 0).size = 1 := by kernel_rfl
theorem sizeL1 : (opsL 1).size = 7 := by kernel_rfl
theorem sizeL2 : (opsL 2).size = 7 := by kernel_rfl
theorem sizeL3 : (opsL 3).size = 9 := by kernel_rfl
theorem okL2 : (opsL 2).all (okO Try.prog S0 V0) = true := by kernel_rfl
theorem okL3 : (opsL 3).all (okO Try.prog S0 V0) = true := by kernel_rfl
theorem name10 : (Try.f10.name == "runtime.NumGoroutine") = false := by kernel_rfl
theorem enterL1 (e : Act) (w : World) (es : Array Event) : (execOp e.eval ((opsL 1)[1]'(by rw [sizeL1]; decide))).run Try.prog w = .ok (.enter 10 (#[Operand.tmp 8].map e.eval)) w ∧ (execOp e.eval ((opsL 1)[1]'(by rw [sizeL1]; decide))).events Try.prog w es = es := by
  have ho : ((opsL 1)[1]'(by rw [sizeL1]; decide)).op = Op.call { callee := .value (.func 10), args := #[.tmp 8], argTypes := #[29] } := rfl
  have e0 : e.eval (.func 10) = .func (.func 10) #[] #[] := rfl
  have n10 : ¬ Try.f10.name = "runtime.NumGoroutine" := by simpa using name10
  have b10 : Try.f10.body = some body10 := rfl
  constructor
  · unfold execOp
    rw [ho]
    simp [resolve, Deferred.ofValue, invoke, e0, callFunc, Try.func10, n10, b10]
  · unfold execOp
    rw [ho]
    simp [resolve, Deferred.ofValue, invoke, e0, callFunc, Try.func10, n10, b10]
theorem enterL2 (e : Act) (w : World) (v : Value) (h : e.eval (.tmp 13) = v) : (execOp e.eval ((opsL 2)[1]'(by rw [sizeL2]; decide))).run Try.prog w = .ok (.enter 11 #[v]) w := by
  have ho : ((opsL 2)[1]'(by rw [sizeL2]; decide)).op = Op.call { callee := .value (.func 11), args := #[.tmp 13], argTypes := #[29] } := rfl
  have eg : ∀ args w, (callFunc 11 args).run Try.prog w = .ok (.enter 11 args) w := enters_of Try.func11 (by kernel_rfl) rfl
  have e0 : e.eval (.func 11) = .func (.func 11) #[] #[] := rfl
  unfold execOp
  rw [ho]
  simp [resolve, Deferred.ofValue, invoke, e0, h, eg]
theorem enterL3 (e : Act) (w : World) (v u : Value) (h : e.eval (.tmp 17) = v) (h' : e.eval (.tmp 18) = u) : (execOp e.eval ((opsL 3)[2]'(by rw [sizeL3]; decide))).run Try.prog w = .ok (.enter 12 #[v, u]) w := by
  have ho : ((opsL 3)[2]'(by rw [sizeL3]; decide)).op = Op.call { callee := .value (.func 12), args := #[.tmp 17, .tmp 18], argTypes := #[30, 30] } := rfl
  have eg : ∀ args w, (callFunc 12 args).run Try.prog w = .ok (.enter 12 args) w := enters_of Try.func12 (by kernel_rfl) rfl
  have e0 : e.eval (.func 12) = .func (.func 12) #[] #[] := rfl
  unfold execOp
  rw [ho]
  simp [resolve, Deferred.ofValue, invoke, e0, h, h', eg]

/-- MergeAll's frame at its beginning. -/
theorem frame1 (v : Value) (m : Nat) (hm : 0 < m) : (#[v] ++ Array.replicate (m - (#[Operand.tmp 8] : Array Operand).size) undef : Array Value).size = m ∧ (#[v] ++ Array.replicate (m - (#[Operand.tmp 8] : Array Operand).size) undef : Array Value)[0]? = some v := by
  constructor
  · rw [Array.size_append, Array.size_replicate]
    simp
    omega
  · rw [Array.getElem?_append_left (by simp)]
    rfl

variable [Shift]
set_option maxHeartbeats 800000 in
theorem law_mi (hP : OkP Try.prog S0 V0) {post : Value → World → Prop} (t : Array Value) (w : World) (v : Value) (ls : List (List Plain.En)) (hls : ∀ j, (ls.getD j []).length ≤ 9223372036854775807) (hbig : ls.length ≤ 9223372036854775807) (hz : t.size = 25) (h0 : t[0]? = some v) (hL : LsO w v ls)
    (hpost : ∀ w', post (.bool true) w') : MI Try.prog S0 V0 (.main post) ⟨none, none, []⟩ (bare 4 t) [] [.code body4] [] w := by
  have hS : Sl t 25 [(0, v)] := ⟨hz, fun p hp => by
    simp only [List.mem_cons, List.not_mem_nil, or_false] at hp
    subst hp
    exact h0⟩
  rw [body4_is]
  refine MI.seq (MI.reg (r := [0]) (by rw [sizeL0]; rfl) ?_)
  refine MI.cst hS (o := (opsL 0)[0]'(by rw [sizeL0]; decide)) 2 (.bool false) rfl (.inr rfl) rfl rfl (by omega) (by rfl) fun t1 U1 hS1 => MI.regE ?_
  refine MI.seq (MI.reg (r := [0, 1, 2, 3, 4, 5, 6]) (by rw [sizeL1]; rfl) ?_)
  refine MI.mv hS1 (o := (opsL 1)[0]'(by rw [sizeL1]; decide)) 0 8 v rfl (.inl rfl) rfl rfl (by omega) (by simp [setS]) fun t2 U2 hS2 => ?_
  obtain ⟨wb, hwb⟩ : ∃ wb, wb = onT (onT w U1) U2 := ⟨_, rfl⟩
  have kb : Kx w wb := by rw [hwb]; exact Kx.onT w U2
  rw [← hwb]
  clear hwb
  refine MI.enter (o := (opsL 1)[1]'(by rw [sizeL1]; decide)) (h := 10) (xs := #[.tmp 8]) (fn := Try.f10) (c := body10) rfl rfl (by kernel_rfl) Try.func10 rfl enterL1 ?_
  have exs : (#[Operand.tmp 8] : Array Operand).map (Act.eval ⟨t2, []⟩) = #[v] := by
    have := hS2.ev (s := 8) (v := v) (by simp [setS])
    simp [this]
  rw [exs, Try.ntmps10]
  obtain ⟨z0, g0⟩ := frame1 v 25 (by omega)
  refine all_mi hP _ wb v ls hls z0 g0 (hL.keep kb.k) hbig fun t3 w3 r z3 e2 e3 hE k3 => ?_
  refine MI.ret (fn := Try.f10) (v := .tuple #[r, .int .i64 ((Plain.allA ls).2 : Nat)]) (o := (opsL 1)[1]'(by rw [sizeL1]; decide)) Try.func10 (fun w0 => ?_) rfl ?_
  · have g2 : t3.getD 2 undef = r := by rw [Array.getD_eq_getD_getElem?, e2]; rfl
    have g3 : t3.getD 3 undef = .int .i64 ((Plain.allA ls).2 : Nat) := by rw [Array.getD_eq_getD_getElem?, e3]; rfl
    rw [results_tmp2 (fn := Try.f10) (t := 2) (u := 3) rfl, g2, g3]
  have hS3 := hS2.put (d := 9) (by omega) (.tuple #[r, .int .i64 ((Plain.allA ls).2 : Nat)])
  refine MI.mv hS3 (o := (opsL 1)[2]'(by rw [sizeL1]; decide)) 9 7 (.tuple #[r, .int .i64 ((Plain.allA ls).2 : Nat)]) rfl (.inl rfl) rfl rfl (by omega) (by simp [setS]) fun t4 U4 hS4 => ?_
  refine MI.vl hS4 (o := (opsL 1)[3]'(by rw [sizeL1]; decide)) 10 r rfl rfl rfl (by omega) (by kernel_rfl) (fun T => run_ext (x := .tmp 7) (j := 0) (vs := #[r, .int .i64 ((Plain.allA ls).2 : Nat)]) rfl (hS4.ev (by simp [setS])) rfl) fun t5 U5 hS5 => ?_
  refine MI.vl hS5 (o := (opsL 1)[4]'(by rw [sizeL1]; decide)) 11 (.int .i64 ((Plain.allA ls).2 : Nat)) rfl rfl rfl (by omega) (by kernel_rfl) (fun T => run_ext (x := .tmp 7) (j := 1) (vs := #[r, .int .i64 ((Plain.allA ls).2 : Nat)]) rfl (hS5.ev (by simp [setS])) rfl) fun t6 U6 hS6 => ?_
  refine MI.mv hS6 (o := (opsL 1)[5]'(by rw [sizeL1]; decide)) 10 3 r rfl (.inr rfl) rfl rfl (by omega) (by simp [setS]) fun t7 U7 hS7 => ?_
  refine MI.mv hS7 (o := (opsL 1)[6]'(by rw [sizeL1]; decide)) 11 4 (.int .i64 ((Plain.allA ls).2 : Nat)) rfl (.inr rfl) rfl rfl (by omega) (by simp [setS]) fun t8 U8 hS8 => MI.regE ?_
  have hS8' : Sl t8 25 [(0, v), (3, r), (4, .int .i64 ((Plain.allA ls).2 : Nat))] := hS8.sub (by simp [setS])
  clear hS hS1 hS2 hS3 hS4 hS5 hS6 hS7 hS8
  refine MI.seq (MI.reg (r := [0, 1, 2, 3, 4, 5, 6]) (by rw [sizeL2]; rfl) ?_)
  refine MI.mv hS8' (o := (opsL 2)[0]'(by rw [sizeL2]; decide)) 0 13 v rfl (.inl rfl) rfl rfl (by omega) (by simp) fun t9 U9 hS9 => ?_
  refine MI.fragR hP okL2 fun T => ?_
  obtain ⟨wT, hwT⟩ : ∃ wT, wT = retape (onT (onT (onT (onT (onT (onT w3 U4) U5) U6) U7) U8) U9) T := ⟨_, rfl⟩
  have kT : Kx w3 wT := .heap (by rw [hwT]; rfl)
  rw [← hwT]
  clear hwT
  refine wo_call hS9 (o := (opsL 2)[1]'(by rw [sizeL2]; decide)) 14 11 #[v] (fun u w1 => ∃ q, u = .tuple #[q, .int .i64 ((Plain.allA ls).2 : Nat)] ∧ SegN w1 q (Plain.allA ls).1 ∧ Below wT.heap.size wT w1) rfl rfl rfl (by omega) (enterL2 ⟨t9, []⟩ _ _ (hS9.ev (by simp [setS]))) ?_ ?_
  · refine (rcrew_any v ls wT hls (((hL.keep kb.k).keep k3.k).keep kT.k)).mono ?_
    rintro e w1 ⟨q, rfl, h2, _, h4⟩
    exact ⟨_, rfl, q, rfl, h2, h4⟩
  rintro u w1 t10 ⟨q, rfl, hq, hb⟩ hS10
  refine wo_mv hS10 (o := (opsL 2)[2]'(by rw [sizeL2]; decide)) 14 12 (.tuple #[q, .int .i64 ((Plain.allA ls).2 : Nat)]) rfl (.inl rfl) rfl rfl (by omega) (by simp [setS]) fun t11 hS11 => ?_
  refine wo_vl hS11 (o := (opsL 2)[3]'(by rw [sizeL2]; decide)) 15 q rfl rfl rfl (by omega) (run_ext (x := .tmp 12) (j := 0) (vs := #[q, .int .i64 ((Plain.allA ls).2 : Nat)]) rfl (hS11.ev (by simp [setS])) rfl) fun t12 hS12 => ?_
  refine wo_vl hS12 (o := (opsL 2)[4]'(by rw [sizeL2]; decide)) 16 (.int .i64 ((Plain.allA ls).2 : Nat)) rfl rfl rfl (by omega) (run_ext (x := .tmp 12) (j := 1) (vs := #[q, .int .i64 ((Plain.allA ls).2 : Nat)]) rfl (hS12.ev (by simp [setS])) rfl) fun t13 hS13 => ?_
  refine wo_mv hS13 (o := (opsL 2)[5]'(by rw [sizeL2]; decide)) 15 5 q rfl (.inr rfl) rfl rfl (by omega) (by simp [setS]) fun t14 hS14 => ?_
  refine wo_mv hS14 (o := (opsL 2)[6]'(by rw [sizeL2]; decide)) 16 6 (.int .i64 ((Plain.allA ls).2 : Nat)) rfl (.inr rfl) rfl rfl (by omega) (by simp [setS]) fun t15 hS15 => ?_
  have hS15' : Sl t15 25 [(3, r), (4, .int .i64 ((Plain.allA ls).2 : Nat)), (5, q), (6, .int .i64 ((Plain.allA ls).2 : Nat))] := hS15.sub (by simp [setS])
  clear hS8' hS9 hS10 hS11 hS12 hS13 hS14 hS15
  refine wo_nil ⟨rfl, rfl, fun U => ?_⟩
  have s1 : SegN w1 r (Plain.allA ls).1 := (hE.kx (kT.trans (Kx.below hb))).seg
  refine MI.seq (MI.reg (r := [0, 1, 2, 3, 4, 5, 6, 7, 8]) (by rw [sizeL3]; rfl) ?_)
  refine MI.fragR hP okL3 fun T2 => ?_
  obtain ⟨w2, hw2⟩ : ∃ w2, w2 = retape (onT w1 U) T2 := ⟨_, rfl⟩
  have hh2 : w2.heap = w1.heap := by rw [hw2]; rfl
  rw [← hw2]
  clear hw2
  generalize (Plain.allA ls).2 = E at *
  refine wo_mv hS15' (o := (opsL 3)[0]'(by rw [sizeL3]; decide)) 3 17 r rfl (.inl rfl) rfl rfl (by omega) (by simp) fun t16 hS16 => ?_
  refine wo_mv hS16 (o := (opsL 3)[1]'(by rw [sizeL3]; decide)) 5 18 q rfl (.inl rfl) rfl rfl (by omega) (by simp [setS]) fun t17 hS17 => ?_
  refine wo_call hS17 (o := (opsL 3)[2]'(by rw [sizeL3]; decide)) 19 12 #[r, q] (fun u w1 => u = .bool true) rfl rfl rfl (by omega) (enterL3 ⟨t17, []⟩ _ _ _ (hS17.ev (by simp [setS])) (hS17.ev (by simp [setS]))) ?_ ?_
  · refine (law.same_any r q (Plain.allA ls).1 (Nat.le_trans (Plain.allA_len ls) (by decide)) w2 (s1.heap hh2) (hq.heap hh2)).mono ?_
    rintro e w3 ⟨rfl, _⟩
    exact ⟨_, rfl, rfl⟩
  rintro u w4 t18 rfl hS18
  refine wo_mv hS18 (o := (opsL 3)[3]'(by rw [sizeL3]; decide)) 19 20 (.bool true) rfl (.inl rfl) rfl rfl (by omega) (by simp [setS]) fun t19 hS19 => ?_
  refine wo_vl hS19 (o := (opsL 3)[4]'(by rw [sizeL3]; decide)) 21 (.int .i64 E) rfl (wanted_of (o1 := (opsL 3)[3]'(by rw [sizeL3]; decide)) rfl rfl rfl (hS19.get (by simp [setS]))) rfl (by omega) (run_mv (x := .tmp 4) (.inl rfl) (hS19.ev (by simp [setS]))) fun t20 hS20 => ?_
  refine wo_vl hS20 (o := (opsL 3)[5]'(by rw [sizeL3]; decide)) 22 (.int .i64 E) rfl (wanted_of (o1 := (opsL 3)[3]'(by rw [sizeL3]; decide)) rfl rfl rfl (hS20.get (by simp [setS]))) rfl (by omega) (run_mv (x := .tmp 6) (.inl rfl) (hS20.ev (by simp [setS]))) fun t21 hS21 => ?_
  refine wo_vl hS21 (o := (opsL 3)[6]'(by rw [sizeL3]; decide)) 23 (.bool ((E : Int) == E)) rfl (wanted_of (o1 := (opsL 3)[3]'(by rw [sizeL3]; decide)) rfl rfl rfl (hS21.get (by simp [setS]))) rfl (by omega) (run_eql (x := .tmp 21) (y := .tmp 22) (T := 24) rfl E E (hS21.ev (by simp [setS])) (hS21.ev (by simp [setS]))) fun t22 hS22 => ?_
  rw [show (((E : Nat) : Int) == E) = true by simp] at hS22
  refine wo_vl hS22 (o := (opsL 3)[7]'(by rw [sizeL3]; decide)) 24 (.bool true) rfl rfl rfl (by omega) (run_pick (c := .tmp 20) (x := .tmp 23) (y := .const (.bool false)) rfl (hS22.ev (by simp [setS])) (hS22.ev (by simp [setS]))) fun t23 hS23 => ?_
  refine wo_mv hS23 (o := (opsL 3)[8]'(by rw [sizeL3]; decide)) 24 2 (.bool true) rfl (.inr rfl) rfl rfl (by omega) (by simp [setS]) fun t24 hS24 => ?_
  refine wo_nil ⟨rfl, rfl, fun U2 => ?_⟩
  refine MI.toret (.inr ⟨[], rfl⟩) ?_
  refine MI.fin (fn := Try.f4) (v := .bool true) Try.func4 (by kernel_rfl) (fun w0 => ?_) (hpost _)
  have g2 : t24.getD 2 undef = .bool true := by
    have := hS24.get (s := 2) (v := .bool true) (by simp [setS])
    rw [Array.getD_eq_getD_getElem?, this]
    rfl
  rw [results_tmp (fn := Try.f4) (t := 2) rfl, g2]
end Go.Proofs.Ytcobehkadhcjiaa
