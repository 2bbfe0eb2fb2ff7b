/-
  Goroutines among others: part 23 of what the law's own text rests on.
-/
import Derived.Test.YtcobehkadhcjiaaCb13
import Derived.Test.YtcobehkadhcjiaaCb20
import Derived.Test.YtcobehkadhcjiaaCb22
import Derived.Laws.AppendOwnNone
/-
  append of what one row holds onto another one.
-/
namespace Go.Proofs.Ytcobehkadhcjiaa
open Go.RowKit

theorem run_app_owned {P : Program} {w : World} {B B2 n m e size bytes : Nat} {t ty : TypeId} {i : TypeInfo} {z v x : Value} {xs ys : List Value} (ht : P.underlying t = some (.slice e)) (hi : P.info? e = some i) (hz : i.zero = some z)
    (hsize : i.size = size) (hby : i.bytes = bytes) (hzs : z.cells.size = size) (hsz : 0 < size) (hown : w.ownsRow B e size v n xs) (hsrc : w.ownsRow B2 e size x m ys) (h1 : ∀ u ∈ ys, u.oneCell' = true) (h63 : n + m ≤ maxLen) (hbytes : (n + m) * bytes ≤ 140737488355328) (hB : B ≤ w.heap.size) :
    ∃ v' w', (Builtin.append_ #[t, t] ty #[v, x]).run P w = .ok v' w' ∧ w'.ownsRow B e size v' (n + m) (xs ++ ys) ∧ w.grownBy w' v.ownBlock := by
  rcases hsrc.2 with ⟨rfl, h0⟩ | ⟨g, cap, cur, rfl, _, _, _, _, _, _⟩
  · subst h0
    have hy : ys = [] := List.length_eq_zero_iff.1 (by rw [hsrc.1]; simp)
    subst hy
    refine ⟨v, w, run_append_owned_none (P := P) (w := w) B t ty e i size ht hi v n _ hown, by simpa using hown, ⟨rfl, rfl, rfl, Nat.le_refl _, fun _ _ _ => rfl⟩⟩
  · obtain ⟨v', w', a1, a2, a3, _⟩ := run_append_own (P := P) w B t ty e i z size bytes ht hi hz hsize hby hzs hsz v n _ hown ⟨g, 0, none⟩ m cap ys hsrc.1 (hsrc.cells rfl) h1 h63 hbytes hB
    exact ⟨v', w', a1, a2, a3⟩

/-- append whose run is known, at an operation that is wanted. -/
theorem wpList_app {P : Program} {ops : Array Oper} {Q : Exit → Act → World → Prop} {a : Act} {w w' : World} {rest : List Oper} {o : Oper} {v1 v2 v' : Value} {ty : Nat} (s x : Operand) (t : TypeId)
    (hrun : (Builtin.append_ #[t, t] ty #[v1, v2]).run P w = .ok v' w') (ho : o.op = .call { callee := .builtin .append, args := #[s, x], argTypes := #[t, t] }) (hty : o.type = ty)
    (hs : a.eval s = v1) (hx : a.eval x = v2) (hw : Region.wanted o (yielded ops a.tmps) = true) (h : wpList P ops Q rest (a.put o.dst v') w') : wpList P ops Q (o :: rest) a w :=
  BigFrame.wpList_want hw fun K hK => by
    unfold Oper.wp execOp
    simp only [ho, resolve, invoke, builtin, Sem.run_bind, Sem.run_pure, Result.andThen_ok, List.map_toArray, List.map_cons, List.map_nil, hs, hx, hty, hrun]
    exact hK _ _ h
end Go.Proofs.Ytcobehkadhcjiaa

/-
  crew.MergeAll: slices.Concat of at most one list.
-/
namespace Go.Proofs.Ytcobehkadhcjiaa
open Go Go.Conc Go.RowKit Go.Sort Go.Shelf

theorem grow_c (n : Nat) (hn : n ≤ 1000) (w : World) : Calls Try.prog 66 #[.slice none 0 0, .int .i64 n] w fun e w' => ∃ v, e = .returned v ∧ OwnN w' w.heap.size 41 v [] ∧ Below w.heap.size w w' := by
  by_cases h0 : 0 < n
  · exact grow1_c n h0 hn w
  · obtain rfl : n = 0 := by omega
    exact grow0_c w

/-- append of what a slice of entries holds onto a row of its own. -/
theorem app_seg {w : World} {B : Nat} {v x : Value} {l m : List Plain.En} (hl : l.length + m.length ≤ 100000) (hB : B ≤ w.heap.size) (h : OwnN w B 41 v l) (hs : SegN w x m) :
    ∃ v' w', (Builtin.append_ #[30, 30] 30 #[v, x]).run Try.prog w = .ok v' w' ∧ OwnN w' B 41 v' (l ++ m) ∧ w.grownBy w' v.ownBlock := by
  obtain ⟨i0, hi, hz0, hz1, hz2⟩ := info_parts Try.infoEntry
  obtain ⟨p, c, rfl, hm⟩ := hs.form
  cases p with
  | none =>
    have e : m = [] := by
      by_cases h0 : 0 < m.length
      · obtain ⟨_, _, e, _⟩ := hm h0; cases e
      · exact List.length_eq_zero_iff.1 (by omega)
    subst e
    refine ⟨v, w, ?_, by simpa using h, ⟨rfl, rfl, rfl, Nat.le_refl _, fun _ _ _ => rfl⟩⟩
    have ht := Try.underlying30
    rcases h.2 with ⟨e1, e2⟩ | ⟨g, cap, cur, e1, _, _, hnc, _⟩
    · rw [e1]
      simp [Builtin.append_, run_underlying ht, sizeOf, typeInfo, hi, Builtin.lenOf, Builtin.firstCells]
    · rw [e1]
      simp [Builtin.append_, run_underlying ht, sizeOf, typeInfo, hi, Builtin.lenOf, Builtin.firstCells, hnc, storeCells]
  | some a =>
    obtain ⟨v', w', a1, a2, a3, _⟩ := run_append_own (P := Try.prog) w B 30 30 41 i0 _ 5 40 Try.underlying30 hi hz0 hz1 hz2 rfl (by decide) v l.length (evals l) h a m.length c (evals m) (evals_len m) (fun j u hj => by
      have h0 : 0 < m.length := by
        have := (List.getElem?_eq_some_iff.1 hj).1
        rw [evals_len] at this
        omega
      obtain ⟨b, off, e, _, hc⟩ := hm h0
      cases e
      have := hc.vals j u hj
      by_cases j0 : j = 0
      · subst j0; simpa [Addr.add] using this
      · simpa [Addr.add, j0] using this) (evals_one m) (by unfold maxLen; omega) (by omega) hB
    refine ⟨v', w', a1, ?_, a3⟩
    unfold OwnN
    rw [evals_app, List.length_append]
    exact a2

set_option maxHeartbeats 2000000 in
theorem concat0_c (p : Option Addr) (c : Nat) (w : World) : Calls Try.prog 31 #[.slice p 0 c] w fun e w' => ∃ v, e = .returned v ∧ OwnN w' w.heap.size 41 v [] ∧ Below w.heap.size w w' := by
  have K := grow0_c w
  go_enter Try.func31, Try.ntmps31
  go_wp2
  refine wp_loop_rounds 1 ?_
  rw [rounds_succ]
  go_wp2_with (go_at_call 66; refine K.mono ?_; rintro e w1 ⟨v, rfl, hO, hb⟩)
  refine wp_loop_rounds 1 ?_
  rw [rounds_succ]
  go_wp2
  go_ret
  exact ⟨_, rfl, hO, hb⟩

set_option maxRecDepth 100000 in
set_option maxHeartbeats 4000000 in
theorem concat1_c (b off c : Nat) (x : Value) (l : List Plain.En) (w : World) (hl : l.length ≤ 1000) (hx : w.cell? ⟨b, off, none⟩ = some x) (hs : SegN w x l) (hy : Lies w.heap.size x) :
    Calls Try.prog 31 #[.slice (some ⟨b, off, none⟩) 1 c] w fun e w' => ∃ v, e = .returned v ∧ OwnN w' w.heap.size 41 v l ∧ Below w.heap.size w w' := by
  have hb := World.block_lt_of_cell? (w := w) (h := hx)
  have K := grow_c l.length hl
  have HS := hid hs
  have HY := hid hy
  have HX := hid hx
  obtain ⟨p, cx, rfl, _⟩ := hs.form
  clear hs hy
  have h0 : ¬ ((l.length : Int) < 0) := by omega
  have hw : wrap64 (l.length : Int) = l.length := by unfold wrap64; omega
  have HL := hid hl
  generalize hn : l.length = n at *
  go_enter Try.func31, Try.ntmps31
  go_wp2
  refine wp_loop_rounds 2 ?_
  rw [rounds_succ]
  go_wp2
  rw [rounds_succ]
  go_wp2_with (go_at_call 66; refine (K _).mono ?_; rintro e w1 ⟨v, rfl, hO, hb1⟩)
  have x1 := (Below.cell hb1 (p := ⟨b, off, none⟩) hb).trans HX.out
  obtain ⟨v2, w2, hr, hO2, hg⟩ := app_seg (B := w.heap.size) (l := []) (m := l) (by simp; omega) hb1.size hO (HS.out.below hb1 HY.out)
  have b2 : Below w.heap.size w w2 := hb1.grown hg hb1.size fun j hj => (hO.lt j hj).1
  have HO := hid hO2
  have HB := hid b2
  have HR := hid hr
  clear hO2 b2 hg hO hb1 hr
  refine wp_loop_rounds 2 ?_
  rw [rounds_succ]
  go_wp2_with (at_builtin; refine wpList_app _ _ 30 HR.out (by rfl) (by rfl) (by rfl) (by rfl) (by rfl) ?_)
  rw [rounds_succ]
  go_wp2
  go_ret
  exact ⟨_, rfl, by simpa using HO.out, HB.out⟩

/-- Concat of at most one list. -/
theorem concat_c (v : Value) (ls : List (List Plain.En)) (w : World) (h1 : ls.length ≤ 1) (hls : ∀ j, (ls.getD j []).length ≤ 1000) (hL : LsO w v ls) :
    Calls Try.prog 31 #[v] w fun e w' => ∃ r, e = .returned r ∧ OwnN w' w.heap.size 41 r (ls.getD 0 []) ∧ Below w.heap.size w w' := by
  rcases hL with ⟨rfl, p, c, rfl⟩ | ⟨b, off, c, rfl, _, hL⟩
  · exact concat0_c p c w
  · by_cases h0 : ls.length = 0
    · have : ls = [] := List.length_eq_zero_iff.1 h0
      subst this
      exact concat0_c _ c w
    · have e : ls.length = 1 := by omega
      rw [e] at hL ⊢
      obtain ⟨x, hx, hE⟩ := hL.at_ 0 (by omega)
      exact concat1_c b off c x (ls.getD 0 []) w (hls 0) hx hE.seg hE.lies
end Go.Proofs.Ytcobehkadhcjiaa

/-
  crew.MergeAll: its entries.
-/
namespace Go.Proofs.Ytcobehkadhcjiaa
open Go Go.Conc Go.RowKit Go.Sort Go.Shelf

theorem run_gtr {P : Program} {e : Operand → Value} {w : World} {o : Oper} {x y : Operand} (ho : o.op = .binOp .gtr 3 x y 3) (i j : Int) (h1 : e x = .int .i64 i) (h2 : e y = .int .i64 j) : (execOp e o).run P w = .ok (.value (.bool (decide (i > j)))) w := by
  unfold execOp
  rw [ho]
  simp only [h1, h2]
  simp [go_sem]
theorem run_neq {P : Program} {e : Operand → Value} {w : World} {o : Oper} {x y : Operand} {T : TypeId} (ho : o.op = .binOp .neq T x y T) (i j : Int) (h1 : e x = .int .i64 i) (h2 : e y = .int .i64 j) : (execOp e o).run P w = .ok (.value (.bool (i != j))) w := by
  unfold execOp
  rw [ho]
  simp only [h1, h2]
  simp [go_sem]
theorem run_ext {P : Program} {e : Operand → Value} {w : World} {o : Oper} {x : Operand} {j : Nat} {vs : Array Value} {v : Value} (ho : o.op = .extract x j) (h1 : e x = .tuple vs) (hv : vs[j]? = some v) : (execOp e o).run P w = .ok (.value v) w := by
  unfold execOp
  rw [ho]
  simp only [h1]
  simp [go_sem, Instr.extract, hv]

noncomputable def body10 : Code := Try.f10.body.getD .skip
noncomputable def opsA (i : Nat) : Array Oper := match i with
  | 0 => opsC (seqL body10)
  | 1 => opsC (seqL (seqL (seqR body10)))
  | 3 => opsC (seqL (seqL (seqR (seqR body10))))
  | 5 => opsC (seqL (seqL (lopC (blkC (seqL (seqR (seqR (seqR body10))))))))
  | 6 => opsC (seqL (blkC (seqR (lopC (blkC (seqL (seqR (seqR (seqR body10)))))))))
  | 7 => opsC (seqL (seqL (seqR (blkC (seqR (lopC (blkC (seqL (seqR (seqR (seqR body10)))))))))))
  | 9 => opsC (seqR (seqR (blkC (seqR (lopC (blkC (seqL (seqR (seqR (seqR body10))))))))))
  | 10 => opsC (seqL (seqR (seqR (seqR (seqR body10)))))
  | _ => #[]
noncomputable def thenC : Code → Code | .cond _ a _ => a | c => c
noncomputable def ops2A : Array Oper := opsC (seqL (thenC (seqR (seqL (seqR body10)))))
noncomputable def ops4A : Array Oper := opsC (seqL (thenC (seqR (seqL (seqR (seqR body10))))))
noncomputable def ops8A : Array Oper := opsC (seqL (thenC (seqR (seqL (seqR (blkC (seqR (lopC (blkC (seqL (seqR (seqR (seqR body10))))))))))))) 
noncomputable def turnA : Code := .seq (.region 6 (opsA 6) false) (.seq (.seq (.region 7 (opsA 7) false) (.cond (.tmp 20) (.seq (.region 8 ops8A false) .ret) .skip)) (.region 9 (opsA 9) false))
noncomputable def roundA : Code := .seq (.seq (.region 5 (opsA 5) false) (.cond (.tmp 13) .skip (.exit 0))) (.block 1 turnA)
noncomputable def endA : Code := .seq (.region 10 (opsA 10) false) .ret
theorem body10_is : body10 = .seq (.region 0 (opsA 0) false) (.seq (.seq (.region 1 (opsA 1) false) (.cond (.tmp 8) (.seq (.region 2 ops2A false) .ret) .skip)) (.seq (.seq (.region 3 (opsA 3) false) (.cond (.tmp 10) (.seq (.region 4 ops4A false) .ret) .skip)) (.seq (.block 0 (.loop roundA)) endA))) := rfl
theorem sizeA0 : (opsA 0).size = 2 := by kernel_rfl
theorem sizeA1 : (opsA 1).size = 3 := by kernel_rfl
theorem sizeA2 : ops2A.size = 2 := by kernel_rfl
theorem sizeA3 : (opsA 3).size = 2 := by kernel_rfl
theorem sizeA4 : ops4A.size = 2 := by kernel_rfl
theorem sizeA5 : (opsA 5).size = 3 := by kernel_rfl
theorem sizeA6 : (opsA 6).size = 7 := by kernel_rfl
theorem sizeA7 : (opsA 7).size = 2 := by kernel_rfl
theorem sizeA8 : ops8A.size = 3 := by kernel_rfl
theorem sizeA9 : (opsA 9).size = 2 := by kernel_rfl
theorem sizeA10 : (opsA 10).size = 4 := by kernel_rfl
theorem okA3 : (opsA 3).all (okO Try.prog S0 V0) = true := by kernel_rfl
theorem okA10 : (opsA 10).all (okO Try.prog S0 V0) = true := by kernel_rfl

theorem enterA3 (e : Act) (w : World) (v : Value) (h : e.eval (.tmp 9) = v) : (execOp e.eval ((opsA 3)[1]'(by rw [sizeA3]; decide))).run Try.prog w = .ok (.enter 27 #[v, .func (.func 28) #[] #[]]) w := by
  have ho : ((opsA 3)[1]'(by rw [sizeA3]; decide)).op = Op.call { callee := .value (.func 27), args := #[.tmp 9, .func 28], argTypes := #[29, 63] } := rfl
  have eg : ∀ args w, (callFunc 27 args).run Try.prog w = .ok (.enter 27 args) w := enters_of Try.func27 (by kernel_rfl) rfl
  have e0 : e.eval (.func 27) = .func (.func 27) #[] #[] := rfl
  have e1 : e.eval (.func 28) = .func (.func 28) #[] #[] := rfl
  unfold execOp
  rw [ho]
  simp [resolve, Deferred.ofValue, invoke, e0, e1, h, eg]
theorem enterA10 (e : Act) (w : World) (v : Value) (h : e.eval (.tmp 23) = v) : (execOp e.eval ((opsA 10)[1]'(by rw [sizeA10]; decide))).run Try.prog w = .ok (.enter 31 #[v]) w := by
  have ho : ((opsA 10)[1]'(by rw [sizeA10]; decide)).op = Op.call { callee := .value (.func 31), args := #[.tmp 23], argTypes := #[29] } := rfl
  have eg : ∀ args w, (callFunc 31 args).run Try.prog w = .ok (.enter 31 args) w := enters_of Try.func31 (by kernel_rfl) rfl
  have e0 : e.eval (.func 31) = .func (.func 31) #[] #[] := rfl
  unfold execOp
  rw [ho]
  simp [resolve, Deferred.ofValue, invoke, e0, h, eg]
theorem name30 : (Try.f30.name == "runtime.NumGoroutine") = false := by kernel_rfl
theorem isb30 : Try.f30.body.isNone = false := by kernel_rfl
theorem enterA6 (e : Act) (w : World) (es : Array Event) : (execOp e.eval ((opsA 6)[1]'(by rw [sizeA6]; decide))).run Try.prog w = .ok (.enter 30 (#[Operand.tmp 15].map e.eval)) w ∧ (execOp e.eval ((opsA 6)[1]'(by rw [sizeA6]; decide))).events Try.prog w es = es := by
  have ho : ((opsA 6)[1]'(by rw [sizeA6]; decide)).op = Op.call { callee := .value (.func 30), args := #[.tmp 15], argTypes := #[29] } := rfl
  have e0 : e.eval (.func 30) = .func (.func 30) #[] #[] := rfl
  have n30 : ¬ Try.f30.name = "runtime.NumGoroutine" := by simpa using name30
  have b30 : Try.f30.body = some body30 := rfl
  constructor
  · unfold execOp
    rw [ho]
    simp [resolve, Deferred.ofValue, invoke, e0, callFunc, Try.func30, n30, b30]
  · unfold execOp
    rw [ho]
    simp [resolve, Deferred.ofValue, invoke, e0, callFunc, Try.func30, n30, b30]
theorem wo_cst {P : Program} {ops : Array Oper} {Q : Exit → Act → World → Prop} {i : Nat} {rest : List Nat} {t : Array Value} {w : World} {n : Nat} {l : List (Nat × Value)} (hS : Sl t n l) {o : Oper} (d : Nat) (v : Value) (ho : ops[i]? = some o) (hop : o.op = .move (.const v) ∨ o.op = .assign (.const v)) (hd : o.dst = some d) (hg : o.guard = none) (hn : d < n)
    (h : ∀ t', Sl t' n (setS d v l) → wpOps P ops Q rest ⟨t', []⟩ w) : wpOps P ops Q (i :: rest) ⟨t, []⟩ w := by
  unfold wpOps
  rw [ho]
  dsimp only
  rw [if_pos (by simp [Region.wanted, hg])]
  left
  have hr : (execOp (Act.eval ⟨t, []⟩) o).run P w = .ok (.value v) w := by
    unfold execOp
    rcases hop with hop | hop <;> rw [hop] <;> rfl
  unfold Oper.wp
  rw [hr, Oper.upon_value, hd]
  exact h _ (hS.put hn v)
end Go.Proofs.Ytcobehkadhcjiaa

/-
  crew.MergeAll, whole.
-/
namespace Go.Proofs.Ytcobehkadhcjiaa
open Go Go.Conc Go.RowKit Go.Sort Go.Shelf

namespace Plain
/-- What MergeAll answers. -/
def allA (ls : List (List En)) : List En × Nat := if 200 < ls.length then ([], 1) else if ls.any (fun l => !mayL l) = true then ([], 4) else crewA (uni ls)
end Plain

theorem LsO.keep {w w1 : World} {v : Value} {ls : List (List Plain.En)} (h : LsO w v ls) (k : Keeps w w1) : LsO w1 v ls := by
  rcases h with h | ⟨b, off, c, e, hc, hL⟩
  · exact .inl h
  · refine .inr ⟨b, off, c, e, hc, ?_⟩
    have := hL.keep ⟨k.size, k.cell, k.uf⟩
    exact ⟨this.len, Nat.lt_of_lt_of_le this.lt k.size, fun j hj => by
      obtain ⟨u, q1, q2⟩ := this.at_ j hj
      exact ⟨u, q1, q2.up k.size⟩⟩
theorem LsO.form {w : World} {v : Value} {ls : List (List Plain.En)} (h : LsO w v ls) : ∃ p c, v = .slice p ls.length c := by
  rcases h with ⟨e, p, c, rfl⟩ | ⟨b, off, c, e, _⟩
  · exact ⟨p, c, by rw [e]; rfl⟩
  · exact ⟨_, c, e⟩

theorem HeldN.kx {w w' : World} {v : Value} {l : List Plain.En} (h : HeldN w v l) (k : Kx w w') : HeldN w' v l := ⟨h.seg.keep k.k, h.slv.mono k.size, h.ty.keep fun b _ hb => k.block b (Array.getElem?_eq_some_iff.1 hb).1⟩
variable [Shift]
set_option maxHeartbeats 400000 in
/-- The end of MergeAll: one list, or none. -/
theorem endA_mi (hP : OkP Try.prog S0 V0) {post : Value → World → Prop} {cs : List Frame} {B : World} (t : Array Value) (w : World) (v : Value) (ls : List (List Plain.En)) (h1 : ls.length ≤ 1) (hm : ∀ l ∈ ls, Plain.mayL l = true) (hS : Sl t 25 [(0, v)]) (hL : LsO w v ls) (hB : Kx B w)
    (K : ∀ (t' : Array Value) (w' : World) (r : Value), t'.size = 25 → t'[2]? = some r → t'[3]? = some (.int .i64 ((Plain.crewA (Plain.uni ls)).2 : Nat)) → HeldN w' r (Plain.crewA (Plain.uni ls)).1 → Kx B w' → MI Try.prog S0 V0 (.main post) ⟨none, none, []⟩ (bareR 10 t') [] [] cs w') :
    MI Try.prog S0 V0 (.main post) ⟨none, none, []⟩ (bare 10 t) [] [.code endA] cs w := by
  have hu : Plain.uni ls = ls.getD 0 [] := by
    match ls, h1 with
    | [], _ => rfl
    | [x], _ => rfl
  have h8 : (ls.getD 0 []).length ≤ 8 := by
    match ls, h1, hm with
    | [], _, _ => exact Nat.zero_le _
    | [x], _, hm => exact Plain.may_len (hm x (by simp))
  have ha : Plain.crewA (Plain.uni ls) = (ls.getD 0 [], 0) := by
    unfold Plain.crewA
    rw [hu, if_pos h8]
  rw [ha] at K
  unfold endA
  refine MI.seq (MI.reg (r := [0, 1, 2, 3]) (by rw [sizeA10]; rfl) ?_)
  refine MI.mv hS (o := (opsA 10)[0]'(by rw [sizeA10]; decide)) 0 23 v rfl (.inl rfl) rfl rfl (by omega) (by simp) fun t1 U1 hS1 => ?_
  refine MI.fragR hP okA10 fun T => ?_
  obtain ⟨wT, hwT⟩ : ∃ wT, wT = retape (onT w U1) T := ⟨_, rfl⟩
  have kT : Kx w wT := .heap (by rw [hwT]; rfl)
  rw [← hwT]
  clear hwT
  refine wo_call hS1 (o := (opsA 10)[1]'(by rw [sizeA10]; decide)) 24 31 #[v] (fun r w1 => OwnN w1 wT.heap.size 41 r (ls.getD 0 []) ∧ Below wT.heap.size wT w1) rfl rfl rfl (by omega) (enterA10 ⟨t1, []⟩ _ _ (hS1.ev (by simp [setS]))) ?_ ?_
  · refine (concat_c v ls wT h1 (fun j => ?_) (hL.keep kT.k)).mono ?_
    · by_cases hj : j = 0
      · subst hj; omega
      · have : ls.length ≤ j := by omega
        rw [List.getD_eq_getElem?_getD, List.getElem?_eq_none this]
        exact Nat.zero_le _
    · rintro e w1 ⟨r, rfl, h2, h3⟩
      exact ⟨r, rfl, h2, h3⟩
  rintro r w1 t2 ⟨hO, hb⟩ hS2
  refine wo_mv hS2 (o := (opsA 10)[2]'(by rw [sizeA10]; decide)) 24 2 r rfl (.inr rfl) rfl rfl (by omega) (by simp [setS]) fun t3 hS3 => ?_
  refine wo_cst hS3 (o := (opsA 10)[3]'(by rw [sizeA10]; decide)) 3 (.int .i64 0) rfl (.inr rfl) rfl rfl (by omega) fun t4 hS4 => ?_
  refine wo_nil ⟨rfl, rfl, fun U => MI.toret (.inr ⟨[], rfl⟩) ?_⟩
  have k1 : Kx wT (onT w1 U) := (Kx.below hb).trans (Kx.onT w1 U)
  have hE : HeldN w1 r (ls.getD 0 []) := ⟨hO.seg.1, own_slv hO, hO.ty⟩
  exact K t4 (onT w1 U) r hS4.size (hS4.get (by simp [setS])) (hS4.get (by simp [setS])) (hE.kx (Kx.onT w1 U)) ((hB.trans kT).trans k1)

set_option maxHeartbeats 800000 in
/-- One round of MergeAll's loop. -/
theorem stepA_mi (hP : OkP Try.prog S0 V0) {post : Value → World → Prop} {cs : List Frame} {B : World} (t : Array Value) (w : World) (v : Value) (ls : List (List Plain.En)) (h200 : ls.length ≤ 200) (hm : ∀ l ∈ ls, Plain.mayL l = true) (hS : Sl t 25 [(0, v)]) (hL : LsO w v ls) (hB : Kx B w)
    (rec : ∀ (t' : Array Value) (w' : World) (v' : Value) (ls' : List (List Plain.En)), ls'.length < ls.length → (∀ l ∈ ls', Plain.mayL l = true) → Plain.uni ls' = Plain.uni ls → Sl t' 25 [(0, v')] → LsO w' v' ls' → Kx B w' →
      MI Try.prog S0 V0 (.main post) ⟨none, none, []⟩ (bare 10 t') [] (.code roundA :: .inLoop roundA :: .inBlock 0 :: .code endA :: []) cs w')
    (K : ∀ (t' : Array Value) (w' : World) (r : Value), t'.size = 25 → t'[2]? = some r → t'[3]? = some (.int .i64 ((Plain.crewA (Plain.uni ls)).2 : Nat)) → HeldN w' r (Plain.crewA (Plain.uni ls)).1 → Kx B w' → MI Try.prog S0 V0 (.main post) ⟨none, none, []⟩ (bareR 10 t') [] [] cs w') :
    MI Try.prog S0 V0 (.main post) ⟨none, none, []⟩ (bare 10 t) [] (.code roundA :: .inLoop roundA :: .inBlock 0 :: .code endA :: []) cs w := by
  obtain ⟨p, c, rfl⟩ := hL.form
  have hu29 := Try.underlying29
  refine MI.seq (MI.seq (MI.reg (r := [0, 1, 2]) (by rw [sizeA5]; rfl) ?_))
  refine MI.mv hS (o := (opsA 5)[0]'(by rw [sizeA5]; decide)) 0 11 (.slice p ls.length c) rfl (.inl rfl) rfl rfl (by omega) (by simp) fun t1 U1 hS1 => ?_
  refine MI.vl hS1 (o := (opsA 5)[1]'(by rw [sizeA5]; decide)) 12 (.int .i64 ls.length) rfl rfl rfl (by omega) (by kernel_rfl) (fun T => run_len (x := .tmp 11) (ty := 29) (el := 30) rfl Try.underlying29 p ls.length c (hS1.ev (by simp [setS]))) fun t2 U2 hS2 => ?_
  refine MI.vl hS2 (o := (opsA 5)[2]'(by rw [sizeA5]; decide)) 13 (.bool (decide ((ls.length : Int) > 1))) rfl rfl rfl (by omega) (by kernel_rfl) (fun T => run_gtr (x := .tmp 12) (y := .const (.int .i64 1)) rfl ls.length 1 (hS2.ev (by simp [setS])) rfl) fun t3 U3 hS3 => ?_
  refine MI.regE ?_
  refine MI.cond (q := decide ((ls.length : Int) > 1)) rfl (hS3.ev (by simp [setS])) ?_
  obtain ⟨wa, hwa⟩ : ∃ wa, wa = onT (onT (onT w U1) U2) U3 := ⟨_, rfl⟩
  have ka : Kx w wa := by rw [hwa]; exact Kx.onT w U3
  rw [← hwa]
  clear hwa
  by_cases h1 : ls.length ≤ 1
  · rw [decide_eq_false (by omega)]
    refine MI.ctl (k1 := [.code endA]) (fun _ _ _ _ _ => stepG_exit rfl) ?_
    exact endA_mi hP t3 wa _ ls h1 hm (hS3.sub (by simp [setS])) (hL.keep ka.k) (hB.trans ka) K
  rw [decide_eq_true (by omega)]
  refine MI.ctl (k1 := .code (.block 1 turnA) :: .inLoop roundA :: .inBlock 0 :: .code endA :: []) (fun _ _ _ _ _ => stepG_skip) ?_
  refine MI.ctl (k1 := .code turnA :: .inBlock 1 :: .inLoop roundA :: .inBlock 0 :: .code endA :: []) (fun _ _ _ _ _ => stepG_block) ?_
  refine MI.seq (MI.reg (r := [0, 1, 2, 3, 4, 5, 6]) (by rw [sizeA6]; rfl) ?_)
  refine MI.mv hS3 (o := (opsA 6)[0]'(by rw [sizeA6]; decide)) 0 15 (.slice p ls.length c) rfl (.inl rfl) rfl rfl (by omega) (by simp [setS]) fun t4 U4 hS4 => ?_
  obtain ⟨wb, hwb⟩ : ∃ wb, wb = onT wa U4 := ⟨_, rfl⟩
  have kb : Kx w wb := by rw [hwb]; exact ka.trans (Kx.onT wa U4)
  rw [← hwb]
  clear hwb
  have hLb := hL.keep kb.k
  obtain ⟨b, off, c2, ev, hcap, hLs⟩ : ∃ b off c2, (Value.slice p ls.length c) = .slice (some ⟨b, off, none⟩) ls.length c2 ∧ ls.length ≤ c2 ∧ LsB wb.heap.size wb b off ls.length ls := by
    rcases hLb with ⟨e, _⟩ | q
    · rw [e] at h1; simp at h1
    · exact q
  cases ev
  have h8 : ∀ j, (ls.getD j []).length ≤ 9223372036854775807 := fun j => by
    by_cases hj : j < ls.length
    · have := Plain.may_len (hm _ (by rw [List.getD_eq_getElem?_getD, List.getElem?_eq_getElem hj]; exact List.getElem_mem hj : ls.getD j [] ∈ ls))
      omega
    · rw [List.getD_eq_getElem?_getD, List.getElem?_eq_none (by omega)]
      exact Nat.zero_le _
  refine MI.enter (o := (opsA 6)[1]'(by rw [sizeA6]; decide)) (h := 30) (xs := #[.tmp 15]) (fn := Try.f30) (c := body30) rfl rfl (by kernel_rfl) Try.func30 rfl enterA6 ?_
  have exs : (#[Operand.tmp 15] : Array Operand).map (Act.eval ⟨t4, []⟩) = #[.slice (some ⟨b, off, none⟩) ls.length c] := by
    have := hS4.ev (s := 15) (v := .slice (some ⟨b, off, none⟩) ls.length c) (by simp [setS])
    simp [this]
  rw [exs, Try.ntmps30]
  obtain ⟨tt, htt⟩ : ∃ tt : Array Value, tt = #[.slice (some ⟨b, off, none⟩) ls.length c] ++ Array.replicate (61 - (#[Operand.tmp 15] : Array Operand).size) undef := ⟨_, rfl⟩
  rw [← htt]
  have ztt : tt.size = 61 := by rw [htt, Array.size_append, Array.size_replicate]; rfl
  have gtt : tt[0]? = some (.slice (some ⟨b, off, none⟩) ls.length c) := by rw [htt, Array.getElem?_append_left (by simp)]; rfl
  clear htt
  refine pairs_mi hP h200 (by omega) hcap h8 tt wb ztt gtt hLs fun t5 w5 g c5 z5 e2 e3 l5 hc5 k5 => ?_
  rw [rdL_P] at e2 l5 hc5
  rw [rdE_P] at e3
  refine MI.ret (fn := Try.f30) (v := .tuple #[.slice (some ⟨g, 0, none⟩) (Plain.rdP ls).length c5, .int .i64 (Plain.rdEP ls : Nat)]) (o := (opsA 6)[1]'(by rw [sizeA6]; decide)) Try.func30 (fun w0 => ?_) rfl ?_
  · have g2 : t5.getD 2 undef = .slice (some ⟨g, 0, none⟩) (Plain.rdP ls).length c5 := by rw [Array.getD_eq_getD_getElem?, e2]; rfl
    have g3 : t5.getD 3 undef = .int .i64 (Plain.rdEP ls : Nat) := by rw [Array.getD_eq_getD_getElem?, e3]; rfl
    rw [results_tmp2 (fn := Try.f30) (t := 2) (u := 3) rfl, g2, g3]
  have hS5 := hS4.put (d := 16) (by omega) (.tuple #[.slice (some ⟨g, 0, none⟩) (Plain.rdP ls).length c5, .int .i64 (Plain.rdEP ls : Nat)])
  refine MI.mv hS5 (o := (opsA 6)[2]'(by rw [sizeA6]; decide)) 16 14 (.tuple #[.slice (some ⟨g, 0, none⟩) (Plain.rdP ls).length c5, .int .i64 (Plain.rdEP ls : Nat)]) rfl (.inl rfl) rfl rfl (by omega) (by simp [setS]) fun t6 U6 hS6 => ?_
  refine MI.vl hS6 (o := (opsA 6)[3]'(by rw [sizeA6]; decide)) 17 (.slice (some ⟨g, 0, none⟩) (Plain.rdP ls).length c5) rfl rfl rfl (by omega) (by kernel_rfl) (fun T => run_ext (x := .tmp 14) (j := 0) (vs := #[.slice (some ⟨g, 0, none⟩) (Plain.rdP ls).length c5, .int .i64 (Plain.rdEP ls : Nat)]) rfl (hS6.ev (by simp [setS])) rfl) fun t7 U7 hS7 => ?_
  refine MI.vl hS7 (o := (opsA 6)[4]'(by rw [sizeA6]; decide)) 18 (.int .i64 (Plain.rdEP ls : Nat)) rfl rfl rfl (by omega) (by kernel_rfl) (fun T => run_ext (x := .tmp 14) (j := 1) (vs := #[.slice (some ⟨g, 0, none⟩) (Plain.rdP ls).length c5, .int .i64 (Plain.rdEP ls : Nat)]) rfl (hS7.ev (by simp [setS])) rfl) fun t8 U8 hS8 => ?_
  refine MI.mv hS8 (o := (opsA 6)[5]'(by rw [sizeA6]; decide)) 17 4 (.slice (some ⟨g, 0, none⟩) (Plain.rdP ls).length c5) rfl (.inr rfl) rfl rfl (by omega) (by simp [setS]) fun t9 U9 hS9 => ?_
  refine MI.mv hS9 (o := (opsA 6)[6]'(by rw [sizeA6]; decide)) 18 5 (.int .i64 (Plain.rdEP ls : Nat)) rfl (.inr rfl) rfl rfl (by omega) (by simp [setS]) fun t10 U10 hS10 => ?_
  refine MI.regE ?_
  have hS10' : Sl t10 25 [(4, .slice (some ⟨g, 0, none⟩) (Plain.rdP ls).length c5), (5, .int .i64 (Plain.rdEP ls : Nat))] := hS10.sub (by simp [setS])
  clear hS hS1 hS2 hS3 hS4 hS5 hS6 hS7 hS8 hS9 hS10
  refine MI.seq (MI.seq (MI.reg (r := [0, 1]) (by rw [sizeA7]; rfl) ?_))
  refine MI.mv hS10' (o := (opsA 7)[0]'(by rw [sizeA7]; decide)) 5 19 (.int .i64 (Plain.rdEP ls : Nat)) rfl (.inl rfl) rfl rfl (by omega) (by simp) fun t11 U11 hS11 => ?_
  refine MI.vl hS11 (o := (opsA 7)[1]'(by rw [sizeA7]; decide)) 20 (.bool (((Plain.rdEP ls : Nat) : Int) != 0)) rfl rfl rfl (by omega) (by kernel_rfl) (fun T => run_neq (x := .tmp 19) (y := .const (.int .i64 0)) (T := 24) rfl (Plain.rdEP ls : Nat) 0 (hS11.ev (by simp [setS])) rfl) fun t12 U12 hS12 => ?_
  refine MI.regE ?_
  obtain ⟨wc, hwc⟩ : ∃ wc, wc = onT (onT (onT (onT (onT (onT (onT w5 U6) U7) U8) U9) U10) U11) U12 := ⟨_, rfl⟩
  have k5c : Kx w5 wc := by rw [hwc]; exact Kx.onT w5 U12
  have kc : Kx B wc := ((hB.trans kb).trans k5).trans k5c
  rw [← hwc]
  clear hwc
  refine MI.cond (q := (((Plain.rdEP ls : Nat) : Int) != 0)) rfl (hS12.ev (by simp [setS])) ?_
  by_cases h0 : Plain.rdEP ls = 0
  · rw [h0, show (((0 : Nat) : Int) != 0) = false from rfl]
    refine MI.ctl (k1 := .code (.region 9 (opsA 9) false) :: .inBlock 1 :: .inLoop roundA :: .inBlock 0 :: .code endA :: []) (fun _ _ _ _ _ => stepG_skip) ?_
    obtain ⟨i1, i2⟩ := Plain.rdP_uni ls hm h0
    refine MI.reg (r := [0, 1]) (by rw [sizeA9]; rfl) ?_
    refine MI.mv hS12 (o := (opsA 9)[0]'(by rw [sizeA9]; decide)) 4 22 (.slice (some ⟨g, 0, none⟩) (Plain.rdP ls).length c5) rfl (.inl rfl) rfl rfl (by omega) (by simp [setS]) fun t13 U13 hS13 => ?_
    refine MI.mv hS13 (o := (opsA 9)[1]'(by rw [sizeA9]; decide)) 22 0 (.slice (some ⟨g, 0, none⟩) (Plain.rdP ls).length c5) rfl (.inr rfl) rfl rfl (by omega) (by simp [setS]) fun t14 U14 hS14 => ?_
    refine MI.regE ?_
    refine MI.ctl (k1 := .inLoop roundA :: .inBlock 0 :: .code endA :: []) (fun _ _ _ _ _ => stepG_inBlock) ?_
    refine MI.ctl (k1 := .code roundA :: .inLoop roundA :: .inBlock 0 :: .code endA :: []) (fun _ _ _ _ _ => stepG_inLoop) ?_
    have kd : Kx wc (onT (onT wc U13) U14) := Kx.onT wc U14
    have hL5 : LsO w5 (.slice (some ⟨g, 0, none⟩) (Plain.rdP ls).length c5) (Plain.rdP ls) := .inr ⟨g, 0, c5, rfl, hc5, l5⟩
    refine rec t14 _ (.slice (some ⟨g, 0, none⟩) (Plain.rdP ls).length c5) (Plain.rdP ls) ?_ i2 i1 (hS14.sub (by simp [setS])) (hL5.keep (k5c.trans kd).k) (kc.trans kd)
    rw [← rdL_P, rdL_length]
    omega
  · rw [show (((Plain.rdEP ls : Nat) : Int) != 0) = true by simpa using h0]
    obtain ⟨i1, i2⟩ := Plain.rdEP_no ls hm h0
    have ha : Plain.crewA (Plain.uni ls) = ([], 8) := by
      unfold Plain.crewA
      rw [if_neg (by omega)]
    rw [ha] at K
    rw [i1] at hS12
    refine MI.seq (MI.reg (r := [0, 1, 2]) (by rw [sizeA8]; rfl) ?_)
    refine MI.mv hS12 (o := ops8A[0]'(by rw [sizeA8]; decide)) 5 21 (.int .i64 (8 : Nat)) rfl (.inl rfl) rfl rfl (by omega) (by simp [setS]) fun t13 U13 hS13 => ?_
    refine MI.cst hS13 (o := ops8A[1]'(by rw [sizeA8]; decide)) 2 (.slice none 0 0) rfl (.inr rfl) rfl rfl (by omega) (by rfl) fun t14 U14 hS14 => ?_
    refine MI.mv hS14 (o := ops8A[2]'(by rw [sizeA8]; decide)) 21 3 (.int .i64 (8 : Nat)) rfl (.inr rfl) rfl rfl (by omega) (by simp [setS]) fun t15 U15 hS15 => ?_
    refine MI.regE (MI.toret (.inr ⟨_, rfl⟩) ?_)
    exact K t15 _ (.slice none 0 0) hS15.size (hS15.get (by simp [setS])) (hS15.get (by simp [setS])) (heldN_nil _) (kc.trans (Kx.onT wc U15))
end Go.Proofs.Ytcobehkadhcjiaa

/-
  crew.MergeAll, from its call to its end.
-/
namespace Go.Proofs.Ytcobehkadhcjiaa
open Go Go.Conc Go.RowKit Go.Sort Go.Shelf

variable [Shift]
theorem loopA_mi (hP : OkP Try.prog S0 V0) {post : Value → World → Prop} {cs : List Frame} {B : World} (N : Nat) : ∀ (t : Array Value) (w : World) (v : Value) (ls : List (List Plain.En)), ls.length ≤ N → ls.length ≤ 200 → (∀ l ∈ ls, Plain.mayL l = true) → Sl t 25 [(0, v)] → LsO w v ls → Kx B w →
    (∀ (t' : Array Value) (w' : World) (r : Value), t'.size = 25 → t'[2]? = some r → t'[3]? = some (.int .i64 ((Plain.crewA (Plain.uni ls)).2 : Nat)) → HeldN w' r (Plain.crewA (Plain.uni ls)).1 → Kx B w' → MI Try.prog S0 V0 (.main post) ⟨none, none, []⟩ (bareR 10 t') [] [] cs w') →
    MI Try.prog S0 V0 (.main post) ⟨none, none, []⟩ (bare 10 t) [] (.code roundA :: .inLoop roundA :: .inBlock 0 :: .code endA :: []) cs w := by
  induction N with
  | zero =>
    intro t w v ls hN h200 hm hS hL hB K
    exact stepA_mi hP t w v ls h200 hm hS hL hB (fun _ _ _ ls' h => absurd h (by omega)) K
  | succ N ih =>
    intro t w v ls hN h200 hm hS hL hB K
    exact stepA_mi hP t w v ls h200 hm hS hL hB (fun t' w' v' ls' h hm' hu hS' hL' hB' => ih t' w' v' ls' (by omega) (by omega) hm' hS' hL' hB' (by rw [hu]; exact K)) K

set_option maxHeartbeats 400000 in
theorem all_mi (hP : OkP Try.prog S0 V0) {post : Value → World → Prop} {cs : List Frame} (t : Array Value) (w : World) (v : Value) (ls : List (List Plain.En)) (hls : ∀ j, (ls.getD j []).length ≤ 9223372036854775807) (hz : t.size = 25) (h0 : t[0]? = some v) (hL : LsO w v ls) (hbig : ls.length ≤ 9223372036854775807)
    (K : ∀ (t' : Array Value) (w' : World) (r : Value), t'.size = 25 → t'[2]? = some r → t'[3]? = some (.int .i64 ((Plain.allA ls).2 : Nat)) → HeldN w' r (Plain.allA ls).1 → Kx w w' → MI Try.prog S0 V0 (.main post) ⟨none, none, []⟩ (bareR 10 t') [] [] cs w') :
    MI Try.prog S0 V0 (.main post) ⟨none, none, []⟩ (bare 10 t) [] [.code body10] cs w := by
  have hS : Sl t 25 [(0, v)] := ⟨hz, fun p hp => by
    simp only [List.mem_cons, List.not_mem_nil, or_false] at hp
    subst hp
    exact h0⟩
  obtain ⟨p, c, rfl⟩ := hL.form
  rw [body10_is]
  refine MI.seq (MI.reg (r := [0, 1]) (by rw [sizeA0]; rfl) ?_)
  refine MI.cst hS (o := (opsA 0)[0]'(by rw [sizeA0]; decide)) 2 (.slice none 0 0) rfl (.inr rfl) rfl rfl (by omega) (by rfl) fun t1 U1 hS1 => ?_
  refine MI.cst hS1 (o := (opsA 0)[1]'(by rw [sizeA0]; decide)) 3 (.int .i64 0) rfl (.inr rfl) rfl rfl (by omega) (by rfl) fun t2 U2 hS2 => MI.regE ?_
  refine MI.seq (MI.seq (MI.reg (r := [0, 1, 2]) (by rw [sizeA1]; rfl) ?_))
  refine MI.mv hS2 (o := (opsA 1)[0]'(by rw [sizeA1]; decide)) 0 6 (.slice p ls.length c) rfl (.inl rfl) rfl rfl (by omega) (by simp [setS]) fun t3 U3 hS3 => ?_
  refine MI.vl hS3 (o := (opsA 1)[1]'(by rw [sizeA1]; decide)) 7 (.int .i64 ls.length) rfl rfl rfl (by omega) (by kernel_rfl) (fun T => run_len (x := .tmp 6) (ty := 29) (el := 30) rfl Try.underlying29 p ls.length c (hS3.ev (by simp [setS]))) fun t4 U4 hS4 => ?_
  refine MI.vl hS4 (o := (opsA 1)[2]'(by rw [sizeA1]; decide)) 8 (.bool (decide ((ls.length : Int) > 200))) rfl rfl rfl (by omega) (by kernel_rfl) (fun T => run_gtr (x := .tmp 7) (y := .const (.int .i64 200)) rfl ls.length 200 (hS4.ev (by simp [setS])) rfl) fun t5 U5 hS5 => ?_
  refine MI.regE ?_
  refine MI.cond (q := decide ((ls.length : Int) > 200)) rfl (hS5.ev (by simp [setS])) ?_
  obtain ⟨wa, hwa⟩ : ∃ wa, wa = onT (onT (onT (onT (onT w U1) U2) U3) U4) U5 := ⟨_, rfl⟩
  have ka : Kx w wa := by rw [hwa]; exact Kx.onT w U5
  rw [← hwa]
  clear hwa
  by_cases hbg : 200 < ls.length
  · rw [decide_eq_true (by omega)]
    have ha : Plain.allA ls = ([], 1) := by unfold Plain.allA; rw [if_pos hbg]
    rw [ha] at K
    refine MI.seq (MI.reg (r := [0, 1]) (by rw [sizeA2]; rfl) ?_)
    refine MI.cst hS5 (o := ops2A[0]'(by rw [sizeA2]; decide)) 2 (.slice none 0 0) rfl (.inr rfl) rfl rfl (by omega) (by rfl) fun t6 U6 hS6 => ?_
    refine MI.cst hS6 (o := ops2A[1]'(by rw [sizeA2]; decide)) 3 (.int .i64 1) rfl (.inr rfl) rfl rfl (by omega) (by rfl) fun t7 U7 hS7 => MI.regE ?_
    refine MI.toret (.inr ⟨_, rfl⟩) ?_
    exact K t7 _ (.slice none 0 0) hS7.size (hS7.get (by simp [setS])) (hS7.get (by simp [setS])) (heldN_nil _) (ka.trans (Kx.onT wa U7))
  rw [decide_eq_false (by omega)]
  refine MI.ctl (k1 := .code (.seq (.seq (.region 3 (opsA 3) false) (.cond (.tmp 10) (.seq (.region 4 ops4A false) .ret) .skip)) (.seq (.block 0 (.loop roundA)) endA)) :: []) (fun _ _ _ _ _ => stepG_skip) ?_
  refine MI.seq (MI.seq (MI.reg (r := [0, 1]) (by rw [sizeA3]; rfl) ?_))
  refine MI.mv hS5 (o := (opsA 3)[0]'(by rw [sizeA3]; decide)) 0 9 (.slice p ls.length c) rfl (.inl rfl) rfl rfl (by omega) (by simp [setS]) fun t6 U6 hS6 => ?_
  refine MI.fragR hP okA3 fun T => ?_
  obtain ⟨wT, hwT⟩ : ∃ wT, wT = retape (onT wa U6) T := ⟨_, rfl⟩
  have kT : Kx w wT := ka.trans (.heap (by rw [hwT]; rfl))
  rw [← hwT]
  clear hwT
  refine wo_call hS6 (o := (opsA 3)[1]'(by rw [sizeA3]; decide)) 10 27 #[.slice p ls.length c, .func (.func 28) #[] #[]] (fun r w1 => r = .bool (ls.any fun l => !Plain.mayL l) ∧ Below wT.heap.size wT w1) rfl rfl rfl (by omega) (enterA3 ⟨t6, []⟩ _ _ (hS6.ev (by simp [setS]))) ?_ ?_
  · refine (containsL_c _ ls wT (by omega) hls (hL.keep kT.k)).mono ?_
    rintro e w1 ⟨rfl, h3⟩
    exact ⟨_, rfl, rfl, h3⟩
  rintro r w1 t7 ⟨rfl, hb⟩ hS7
  refine wo_nil ⟨rfl, rfl, fun U => ?_⟩
  refine MI.cond (q := ls.any fun l => !Plain.mayL l) rfl (hS7.ev (by simp [setS])) ?_
  have k1 : Kx w (onT w1 U) := kT.trans ((Kx.below hb).trans (Kx.onT w1 U))
  cases hq : ls.any fun l => !Plain.mayL l with
  | true =>
    have ha : Plain.allA ls = ([], 4) := by unfold Plain.allA; rw [if_neg hbg, if_pos hq]
    rw [ha] at K
    refine MI.seq (MI.reg (r := [0, 1]) (by rw [sizeA4]; rfl) ?_)
    refine MI.cst hS7 (o := ops4A[0]'(by rw [sizeA4]; decide)) 2 (.slice none 0 0) rfl (.inr rfl) rfl rfl (by omega) (by rfl) fun t8 U8 hS8 => ?_
    refine MI.cst hS8 (o := ops4A[1]'(by rw [sizeA4]; decide)) 3 (.int .i64 4) rfl (.inr rfl) rfl rfl (by omega) (by rfl) fun t9 U9 hS9 => MI.regE ?_
    refine MI.toret (.inr ⟨_, rfl⟩) ?_
    exact K t9 _ (.slice none 0 0) hS9.size (hS9.get (by simp [setS])) (hS9.get (by simp [setS])) (heldN_nil _) (k1.trans (Kx.onT (onT w1 U) U9))
  | false =>
    have ha : Plain.allA ls = Plain.crewA (Plain.uni ls) := by unfold Plain.allA; rw [if_neg hbg, hq]; rfl
    rw [ha] at K
    have hm : ∀ l ∈ ls, Plain.mayL l = true := fun l hl => by
      have := List.any_eq_false.1 hq l hl
      simpa using this
    refine MI.ctl (k1 := .code (.seq (.block 0 (.loop roundA)) endA) :: []) (fun _ _ _ _ _ => stepG_skip) ?_
    refine MI.seq ?_
    refine MI.ctl (k1 := .code (.loop roundA) :: .inBlock 0 :: .code endA :: []) (fun _ _ _ _ _ => stepG_block) ?_
    refine MI.ctl (k1 := .code roundA :: .inLoop roundA :: .inBlock 0 :: .code endA :: []) (fun _ _ _ _ _ => stepG_loop) ?_
    exact loopA_mi hP (B := w) ls.length t7 (onT w1 U) _ ls (Nat.le_refl _) (by omega) hm (hS7.sub (by simp [setS])) (hL.keep k1.k) k1 K
end Go.Proofs.Ytcobehkadhcjiaa
