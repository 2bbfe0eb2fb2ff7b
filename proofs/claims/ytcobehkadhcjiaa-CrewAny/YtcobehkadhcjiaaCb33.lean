/-
  Goroutines among others: part 33 of what the law's own text rests on.
-/
import Derived.Test.YtcobehkadhcjiaaCb26
import Derived.Test.YtcobehkadhcjiaaCb32
/-
  keep.CrewAny: rows of lists of entries; what is merged, plain.
-/
namespace Go.Proofs.Ytcobehkadhcjiaa
open Go Go.Conc Go.RowKit Go.Sort Go.Shelf

namespace Plain
/-- The entries of the first k lists of notes. -/
def els (ns : List (List En)) (k : Nat) : List (List En) := (ns.take k).map fun l => eofs l (noteN l)
theorem els_succ {ns : List (List En)} {k : Nat} (h : k < ns.length) : els ns (k + 1) = els ns k ++ [eofs (ns.getD k []) (noteN (ns.getD k []))] := by
  unfold els
  rw [List.take_succ_eq_append_getElem h, List.map_append, getD_lt h]
  rfl
theorem els_length {ns : List (List En)} {k : Nat} (h : k ≤ ns.length) : (els ns k).length = k := by
  unfold els
  rw [List.length_map, List.length_take]
  omega
theorem els_six {ns : List (List En)} {k : Nat} : ∀ l ∈ els ns k, Six l := fun l hl => by
  obtain ⟨m, _, rfl⟩ := List.mem_map.1 hl
  exact eofs_six m _ (by unfold noteN; omega)
theorem six_may {ls : List (List En)} (h : ∀ l ∈ ls, Six l) : ∀ l ∈ ls, mayL l = true := fun l hl => (h l hl).mayL
theorem uni_six : ∀ {ls : List (List En)}, (∀ l ∈ ls, Six l) → Six (uni ls)
  | [], _ => six_nil
  | x :: xs, h => (h x (by simp)).merge (uni_six fun l hl => h l (by simp [hl]))
theorem uni_fold : ∀ {ls : List (List En)} (out : List En), Srt out → (∀ l ∈ ls, mayL l = true) → mergeL out (uni ls) = ls.flatten.foldl put out
  | [], out, _, _ => rfl
  | x :: xs, out, ho, h => by
    have hx := may_srt (h x (by simp))
    have hs := uni_srt (ls := xs) fun l hl => h l (by simp [hl])
    rw [uni_cons, ← merge_assoc ho hx hs, uni_fold (mergeL out x) (merge_srt ho x) fun l hl => h l (by simp [hl]), List.flatten_cons, List.foldl_append]
    rfl
/-- Who else merges the same, however often, comes to the same. -/
theorem uni_more {os es : List (List En)} (ho : ∀ l ∈ os, l ∈ es) (h : ∀ l ∈ es, Six l) : uni (os ++ es) = uni es := by
  have h2 : ∀ l ∈ os ++ es, Six l := fun l hl => (List.mem_append.1 hl).elim (fun q => h l (ho l q)) (h l)
  rw [← nil_merge (uni_srt (six_may h2)), ← nil_merge (uni_srt (six_may h)), uni_fold [] List.Pairwise.nil (six_may h2), uni_fold [] List.Pairwise.nil (six_may h)]
  apply fold_ext
  intro x
  simp only [List.flatten_append, List.mem_append, List.mem_flatten]
  constructor
  · rintro (⟨l, h1, h2⟩ | q)
    · exact ⟨l, ho l h1, h2⟩
    · exact q
  · exact .inr
theorem allA_six {ls : List (List En)} (hn : ls.length ≤ 200) (h : ∀ l ∈ ls, Six l) : allA ls = (uni ls, 0) := by
  have hq : ls.any (fun l => !mayL l) = false := List.any_eq_false.2 fun l hl => by rw [(h l hl).mayL]; decide
  unfold allA
  rw [if_neg (by omega), hq]
  have := (uni_six h).len
  unfold crewA
  rw [if_pos (show (uni ls).length ≤ 8 by omega)]
  rfl
end Plain

section
variable {P : Program} {ops : Array Oper} {Q : Exit → Act → World → Prop} {i : Nat} {rest : List Nat} {t : Array Value} {w : World} {n : Nat} {l : List (Nat × Value)}
theorem wo_ow (hS : Sl t n l) {o : Oper} (d : Nat) {v : Value} {w1 : World} (ho : ops[i]? = some o) (hg : o.guard = none) (hd : o.dst = some d) (hn : d < n) (hr : (execOp (Act.eval ⟨t, []⟩) o).run P w = .ok (.value v) w1)
    (h : ∀ t', Sl t' n (setS d v l) → wpOps P ops Q rest ⟨t', []⟩ w1) : wpOps P ops Q (i :: rest) ⟨t, []⟩ w := by
  unfold wpOps
  rw [ho]
  dsimp only
  rw [if_pos (by simp [Region.wanted, hg])]
  left
  unfold Oper.wp
  rw [hr, Oper.upon_value, hd]
  exact h _ (hS.put hn v)
theorem wo_skip (hS : Sl t n l) {o : Oper} (d : Nat) (ho : ops[i]? = some o) (hw : Region.wanted o (yielded ops t) = false) (hd : o.dst = some d) (hn : d < n)
    (h : ∀ t', Sl t' n (setS d undef l) → wpOps P ops Q rest ⟨t', []⟩ w) : wpOps P ops Q (i :: rest) ⟨t, []⟩ w := by
  unfold wpOps
  rw [ho]
  dsimp only
  rw [if_neg (by rw [hw]; decide), hd]
  exact h _ (hS.put hn undef)
theorem unwanted_of {o o1 : Oper} {j d : Nat} (hg : o.guard = some (j, true)) (hj : ops[j]? = some o1) (hd : o1.dst = some d) (hv : t[d]? = some (.bool false)) : Region.wanted o (yielded ops t) = false := by
  unfold Region.wanted
  rw [hg]
  unfold yielded
  simp [hj, hd, hv]
end

theorem HeldN.gr {F : Option Nat} {w w' : World} {v : Value} {l : List Plain.En} (h : HeldN w v l) (g : Gr F w w') (hF : ∀ x, F = some x → ∃ cs T f, w.heap[x]? = some (.cells cs T f) ∧ T ≠ 41) : HeldN w' v l := by
  have ne : ∀ b cs, w.heap[b]? = some (Obj.cells cs 41 (0, 0)) → some b ≠ F := fun b cs hb e => by
    obtain ⟨c2, T, f, h2, h3⟩ := hF b e.symm
    rw [h2] at hb
    cases hb
    exact h3 rfl
  refine ⟨seg_gr h.seg g ?_, h.slv.mono g.size, h.ty.keep fun b cs hb => g.block b (Array.getElem?_eq_some_iff.1 hb).1 (ne b cs hb)⟩
  by_cases h0 : l = []
  · exact .inl h0
  · right
    intro x hx
    have hl : 0 < l.length := List.length_pos_iff.2 h0
    obtain ⟨b, off, c, rfl, _, _⟩ := h.seg.some hl
    cases hx
    obtain ⟨cs, hb⟩ := h.ty b off _ c rfl hl
    exact ne b cs hb

/-- A row of lists of entries, the call's own. -/
def RwL (w : World) (B : Nat) (v : Value) (ls : List (List Plain.En)) : Prop := ∃ rs, w.ownsRow B 30 1 v ls.length rs ∧ ∀ j, j < ls.length → ∃ r, rs[j]? = some r ∧ HeldN w r (ls.getD j [])
theorem RwL.nil (w : World) (B : Nat) : RwL w B (.slice none 0 0) [] := ⟨[], World.ownsRow_nil _ _ _ _, fun j hj => by simp at hj⟩
theorem RwL.kx {w w' : World} {B : Nat} {v : Value} {ls : List (List Plain.En)} (h : RwL w B v ls) (k : Kx w w') : RwL w' B v ls := by
  obtain ⟨rs, h1, h2⟩ := h
  exact ⟨rs, owns_old h1 k.block, fun j hj => let ⟨r, q1, q2⟩ := h2 j hj; ⟨r, q1, q2.kx k⟩⟩
theorem RwL.blk {w : World} {B : Nat} {v : Value} {ls : List (List Plain.En)} (h : RwL w B v ls) : ∀ x, v.ownBlock = some x → ∃ cs T f, w.heap[x]? = some (.cells cs T f) ∧ T ≠ 41 := fun x hx => by
  obtain ⟨rs, h1, _⟩ := h
  rcases h1.2 with ⟨e, _⟩ | ⟨g, cap, cur, e, _, hb, _⟩
  · rw [e] at hx; cases hx
  · rw [e] at hx; cases hx
    exact ⟨_, _, _, hb, by decide⟩
theorem RwL.gr {F : Option Nat} {w w' : World} {B : Nat} {v : Value} {ls : List (List Plain.En)} (h : RwL w B v ls) (g : Gr F w w') (hF : ∀ x, F = some x → ∃ cs T f, w.heap[x]? = some (.cells cs T f) ∧ T ≠ 41) (hv : ∀ x, v.ownBlock = some x → some x ≠ F) : RwL w' B v ls := by
  obtain ⟨rs, h1, h2⟩ := h
  exact ⟨rs, owns_gr h1 g hv, fun j hj => let ⟨r, q1, q2⟩ := h2 j hj; ⟨r, q1, q2.gr g hF⟩⟩
theorem RwL.slv {w : World} {B : Nat} {v : Value} {ls : List (List Plain.En)} (h : RwL w B v ls) : ∃ p c, v = .slice p ls.length c := by
  obtain ⟨rs, h1, _⟩ := h
  rcases h1.2 with ⟨e, e2⟩ | ⟨g, cap, cur, e, _⟩
  · exact ⟨none, 0, by rw [e, e2]⟩
  · exact ⟨_, _, e⟩
theorem RwL.lso {w : World} {B : Nat} {v : Value} {ls : List (List Plain.En)} (h : RwL w B v ls) : LsO w v ls := by
  obtain ⟨rs, h1, h2⟩ := h
  by_cases h0 : ls.length = 0
  · have e : ls = [] := List.length_eq_zero_iff.1 h0
    obtain ⟨p, c, rfl⟩ := RwL.slv (h := ⟨rs, h1, h2⟩)
    exact .inl ⟨e, p, c, by rw [h0]⟩
  · obtain ⟨g, cap, rfl, _, hc, hg, hcell⟩ := owns_head h1 (by omega)
    exact .inr ⟨g, 0, cap, rfl, hc, rfl, hg, fun j hj => by
      obtain ⟨r, q1, q2⟩ := h2 j hj
      exact ⟨r, hcell j r q1, q2.seg, q2.slv⟩⟩
/-- Two rows laid together. -/
theorem RwL.mk {w : World} {B : Nat} {v : Value} {l1 l2 : List (List Plain.En)} {r1 r2 : List Value} (h : w.ownsRow B 30 1 v (l1.length + l2.length) (r1 ++ r2)) (e1 : r1.length = l1.length) (h1 : ∀ j, j < l1.length → ∃ r, r1[j]? = some r ∧ HeldN w r (l1.getD j [])) (h2 : ∀ j, j < l2.length → ∃ r, r2[j]? = some r ∧ HeldN w r (l2.getD j [])) :
    RwL w B v (l1 ++ l2) := by
  refine ⟨r1 ++ r2, by rw [List.length_append]; exact h, fun j hj => ?_⟩
  rw [List.length_append] at hj
  by_cases hj1 : j < l1.length
  · obtain ⟨r, q1, q2⟩ := h1 j hj1
    refine ⟨r, by rw [List.getElem?_append_left (by omega)]; exact q1, ?_⟩
    rw [List.getD_eq_getElem?_getD, List.getElem?_append_left hj1, ← List.getD_eq_getElem?_getD]
    exact q2
  · obtain ⟨r, q1, q2⟩ := h2 (j - l1.length) (by omega)
    refine ⟨r, by rw [List.getElem?_append_right (by omega), e1]; exact q1, ?_⟩
    rw [List.getD_eq_getElem?_getD, List.getElem?_append_right (by omega), ← List.getD_eq_getElem?_getD]
    exact q2
end Go.Proofs.Ytcobehkadhcjiaa

/-
  keep.CrewAny: its code; its first loop's entries.
-/
namespace Go.Proofs.Ytcobehkadhcjiaa
open Go Go.Conc Go.RowKit Go.Sort Go.Shelf

noncomputable def body5 : Code := Try.f5.body.getD .skip
noncomputable def after5 : Code := seqR (seqR (seqR body5))
noncomputable def rndY1 : Code := lopC (blkC (seqR (seqL (seqR (seqR body5)))))
noncomputable def insY1 : Code := blkC (seqL (seqR rndY1))
noncomputable def rndY2 : Code := lopC (blkC (seqR (seqL (seqR (seqR after5)))))
noncomputable def tail5 : Code := seqR (seqR (seqR after5))
noncomputable def opsY (i : Nat) : Array Oper := match i with
  | 0 => opsC (seqL body5)
  | 1 => opsC (seqL (seqR body5))
  | 2 => opsC (seqL (seqL (seqR (seqR body5))))
  | 3 => opsC (seqL (seqL rndY1))
  | 4 => opsC (seqR (seqR rndY1))
  | 5 => opsC (seqL insY1)
  | 6 => opsC (seqL (seqL (seqR insY1)))
  | 7 => opsC (seqL (thenC (seqR (seqL (seqR insY1)))))
  | 8 => opsC (seqR (seqR insY1))
  | 9 => opsC (seqL after5)
  | 10 => opsC (seqL (seqR after5))
  | 11 => opsC (seqL (seqL (seqR (seqR after5))))
  | 12 => opsC (seqL (seqL rndY2))
  | 13 => opsC (seqR (seqR rndY2))
  | 14 => opsC (blkC (seqL (seqR rndY2)))
  | 15 => opsC (seqL tail5)
  | 16 => opsC (seqL (seqR tail5))
  | 17 => opsC (seqL (seqR (seqR tail5)))
  | 18 => opsC (seqL (seqR (seqR (seqR tail5))))
  | _ => #[]
noncomputable def bodyY1 : Code := .seq (.region 5 (opsY 5) false) (.seq (.seq (.region 6 (opsY 6) false) (.cond (.tmp 37) (.seq (.region 7 (opsY 7) false) .ret) .skip)) (.region 8 (opsY 8) false))
theorem body5_is : body5 = .seq (.region 0 (opsY 0) false) (.seq (.region 1 (opsY 1) false) (.seq (.seq (.region 2 (opsY 2) false) (.block 0 (.loop rndY1))) after5)) := rfl
theorem rndY1_is : rndY1 = .seq (.seq (.region 3 (opsY 3) false) (.cond (.tmp 25) .skip (.exit 0))) (.seq (.block 1 bodyY1) (.region 4 (opsY 4) false)) := rfl
theorem after5_is : after5 = .seq (.region 9 (opsY 9) false) (.seq (.region 10 (opsY 10) false) (.seq (.seq (.region 11 (opsY 11) false) (.block 2 (.loop rndY2))) tail5)) := rfl
theorem rndY2_is : rndY2 = .seq (.seq (.region 12 (opsY 12) false) (.cond (.tmp 46) .skip (.exit 2))) (.seq (.block 3 (.region 14 (opsY 14) false)) (.region 13 (opsY 13) false)) := rfl
theorem tail5_is : tail5 = .seq (.region 15 (opsY 15) false) (.seq (.region 16 (opsY 16) false) (.seq (.region 17 (opsY 17) false) (.seq (.region 18 (opsY 18) false) .ret))) := rfl
theorem sizeY0 : (opsY 0).size = 1 := by kernel_rfl
theorem sizeY1 : (opsY 1).size = 1 := by kernel_rfl
theorem sizeY2 : (opsY 2).size = 1 := by kernel_rfl
theorem sizeY3 : (opsY 3).size = 8 := by kernel_rfl
theorem sizeY4 : (opsY 4).size = 3 := by kernel_rfl
theorem sizeY5 : (opsY 5).size = 10 := by kernel_rfl
theorem sizeY6 : (opsY 6).size = 2 := by kernel_rfl
theorem sizeY8 : (opsY 8).size = 5 := by kernel_rfl
theorem sizeY9 : (opsY 9).size = 3 := by kernel_rfl
theorem sizeY10 : (opsY 10).size = 1 := by kernel_rfl
theorem sizeY11 : (opsY 11).size = 1 := by kernel_rfl
theorem sizeY12 : (opsY 12).size = 3 := by kernel_rfl
theorem sizeY13 : (opsY 13).size = 3 := by kernel_rfl
theorem sizeY14 : (opsY 14).size = 14 := by kernel_rfl
theorem sizeY15 : (opsY 15).size = 7 := by kernel_rfl
theorem sizeY16 : (opsY 16).size = 9 := by kernel_rfl
theorem sizeY17 : (opsY 17).size = 9 := by kernel_rfl
theorem sizeY18 : (opsY 18).size = 21 := by kernel_rfl
theorem okY3 : (opsY 3).all (okO Try.prog S0 V0) = true := by kernel_rfl
theorem okY5 : (opsY 5).all (okO Try.prog S0 V0) = true := by kernel_rfl
theorem okY8 : (opsY 8).all (okO Try.prog S0 V0) = true := by kernel_rfl
theorem okY14 : (opsY 14).all (okO Try.prog S0 V0) = true := by kernel_rfl
theorem okY18 : (opsY 18).all (okO Try.prog S0 V0) = true := by kernel_rfl

theorem run_not {P : Program} {e : Operand → Value} {w : World} {o : Oper} {x : Operand} {q : Bool} (ho : o.op = .unOp .not 4 x) (h1 : e x = .bool q) : (execOp e o).run P w = .ok (.value (.bool (!q))) w := by
  unfold execOp
  rw [ho]
  simp only [h1]
  simp [go_sem]
theorem run_pickF {P : Program} {e : Operand → Value} {w : World} {o : Oper} {c x y : Operand} {v : Value} (ho : o.op = .pick c x y) (h1 : e c = .bool false) (h2 : e y = v) : (execOp e o).run P w = .ok (.value v) w := by
  unfold execOp
  rw [ho]
  simp [h1, h2, asBool]
theorem run_ld {P : Program} {e : Operand → Value} {w : World} {o : Oper} {x : Operand} {ty : TypeId} {a : Addr} {v : Value} (ho : o.op = .load ty x) (hA : ∀ w, (isAgg ty).run P w = .ok false w) (h1 : e x = .pointer (some a)) (h2 : w.cell? a = some v) : (execOp e o).run P w = .ok (.value v) w := by
  unfold execOp
  rw [ho]
  simp only [h1]
  simp [go_sem, Instr.loadAt, loadVar, hA, h2]
theorem agg38 : ∀ w, (isAgg 38).run Try.prog w = .ok false w := run_isAgg_plain Try.underlying38 (by rfl)
theorem agg30 : ∀ w, (isAgg 30).run Try.prog w = .ok false w := run_isAgg_plain Try.underlying30 (by rfl)
theorem run_bs1 {e : Operand → Value} {w : World} {o : Oper} {s : Nat} {p : Option Addr} {n c : Nat} (ho : o.op = .buildSlice 29 1 #[(0, .tmp s)]) (h : e (.tmp s) = .slice p n c) :
    (execOp e o).run Try.prog w = .ok (.value (.slice (some ⟨w.heap.size, 0, none⟩) 1 1)) (w.alloc (.cells #[.slice p n c] 30 (0, 0))) := by
  unfold execOp
  rw [ho]
  simp [go_sem, h]
theorem enterY5 (e : Act) (w : World) (v : Value) (h : e.eval (.tmp 32) = v) : (execOp e.eval ((opsY 5)[4]'(by rw [sizeY5]; decide))).run Try.prog w = .ok (.enter 13 #[v]) w := by
  have ho : ((opsY 5)[4]'(by rw [sizeY5]; decide)).op = Op.call { callee := .value (.func 13), args := #[.tmp 32], argTypes := #[38] } := rfl
  have eg : ∀ args w, (callFunc 13 args).run Try.prog w = .ok (.enter 13 args) w := enters_of Try.func13 (by kernel_rfl) rfl
  have e0 : e.eval (.func 13) = .func (.func 13) #[] #[] := rfl
  unfold execOp
  rw [ho]
  simp [resolve, Deferred.ofValue, invoke, e0, h, eg]
theorem enterY14 (e : Act) (w : World) (v u : Value) (h : e.eval (.tmp 51) = v) (h' : e.eval (.tmp 52) = u) : (execOp e.eval ((opsY 14)[4]'(by rw [sizeY14]; decide))).run Try.prog w = .ok (.enter 14 #[v, u]) w := by
  have ho : ((opsY 14)[4]'(by rw [sizeY14]; decide)).op = Op.call { callee := .value (.func 14), args := #[.tmp 51, .tmp 52], argTypes := #[3, 3] } := rfl
  have eg : ∀ args w, (callFunc 14 args).run Try.prog w = .ok (.enter 14 args) w := enters_of Try.func14 (by kernel_rfl) rfl
  have e0 : e.eval (.func 14) = .func (.func 14) #[] #[] := rfl
  unfold execOp
  rw [ho]
  simp [resolve, Deferred.ofValue, invoke, e0, h, h', eg]
theorem enterY15 (e : Act) (w : World) (es : Array Event) : (execOp e.eval ((opsY 15)[1]'(by rw [sizeY15]; decide))).run Try.prog w = .ok (.enter 10 (#[Operand.tmp 63].map e.eval)) w ∧ (execOp e.eval ((opsY 15)[1]'(by rw [sizeY15]; decide))).events Try.prog w es = es := by
  have ho : ((opsY 15)[1]'(by rw [sizeY15]; decide)).op = Op.call { callee := .value (.func 10), args := #[.tmp 63], argTypes := #[29] } := rfl
  have e0 : e.eval (.func 10) = .func (.func 10) #[] #[] := rfl
  have n10 : ¬ Try.f10.name = "runtime.NumGoroutine" := by simpa using name10
  have b10 : Try.f10.body = some body10 := rfl
  constructor
  · unfold execOp
    rw [ho]
    simp [resolve, Deferred.ofValue, invoke, e0, callFunc, Try.func10, n10, b10]
  · unfold execOp
    rw [ho]
    simp [resolve, Deferred.ofValue, invoke, e0, callFunc, Try.func10, n10, b10]
theorem enterY16 (e : Act) (w : World) (es : Array Event) : (execOp e.eval ((opsY 16)[3]'(by rw [sizeY16]; decide))).run Try.prog w = .ok (.enter 10 (#[Operand.tmp 70].map e.eval)) w ∧ (execOp e.eval ((opsY 16)[3]'(by rw [sizeY16]; decide))).events Try.prog w es = es := by
  have ho : ((opsY 16)[3]'(by rw [sizeY16]; decide)).op = Op.call { callee := .value (.func 10), args := #[.tmp 70], argTypes := #[29] } := rfl
  have e0 : e.eval (.func 10) = .func (.func 10) #[] #[] := rfl
  have n10 : ¬ Try.f10.name = "runtime.NumGoroutine" := by simpa using name10
  have b10 : Try.f10.body = some body10 := rfl
  constructor
  · unfold execOp
    rw [ho]
    simp [resolve, Deferred.ofValue, invoke, e0, callFunc, Try.func10, n10, b10]
  · unfold execOp
    rw [ho]
    simp [resolve, Deferred.ofValue, invoke, e0, callFunc, Try.func10, n10, b10]
theorem enterY17 (e : Act) (w : World) (es : Array Event) : (execOp e.eval ((opsY 17)[3]'(by rw [sizeY17]; decide))).run Try.prog w = .ok (.enter 10 (#[Operand.tmp 77].map e.eval)) w ∧ (execOp e.eval ((opsY 17)[3]'(by rw [sizeY17]; decide))).events Try.prog w es = es := by
  have ho : ((opsY 17)[3]'(by rw [sizeY17]; decide)).op = Op.call { callee := .value (.func 10), args := #[.tmp 77], argTypes := #[29] } := rfl
  have e0 : e.eval (.func 10) = .func (.func 10) #[] #[] := rfl
  have n10 : ¬ Try.f10.name = "runtime.NumGoroutine" := by simpa using name10
  have b10 : Try.f10.body = some body10 := rfl
  constructor
  · unfold execOp
    rw [ho]
    simp [resolve, Deferred.ofValue, invoke, e0, callFunc, Try.func10, n10, b10]
  · unfold execOp
    rw [ho]
    simp [resolve, Deferred.ofValue, invoke, e0, callFunc, Try.func10, n10, b10]
theorem enterY18 (e : Act) (w : World) (v u : Value) (h : e.eval (.tmp 97) = v) (h' : e.eval (.tmp 98) = u) : (execOp e.eval ((opsY 18)[18]'(by rw [sizeY18]; decide))).run Try.prog w = .ok (.enter 15 #[v, u]) w := by
  have ho : ((opsY 18)[18]'(by rw [sizeY18]; decide)).op = Op.call { callee := .value (.func 15), args := #[.tmp 97, .tmp 98], argTypes := #[30, 30] } := rfl
  have eg : ∀ args w, (callFunc 15 args).run Try.prog w = .ok (.enter 15 args) w := enters_of Try.func15 (by kernel_rfl) rfl
  have e0 : e.eval (.func 15) = .func (.func 15) #[] #[] := rfl
  unfold execOp
  rw [ho]
  simp [resolve, Deferred.ofValue, invoke, e0, h, h', eg]
end Go.Proofs.Ytcobehkadhcjiaa

/-
  keep.CrewAny: its first loop.
-/
namespace Go.Proofs.Ytcobehkadhcjiaa
open Go Go.Conc Go.RowKit Go.Sort Go.Shelf

theorem KeepB.of_ex {B : Nat} {w w1 : World} (hs : w.heap.size ≤ w1.heap.size) (h : Ex B w w1) : KeepB B w w1 := ⟨hs, fun a ha => World.cell?_of_block (h a.block ha), h.uf⟩
theorem Kx.ex {B : Nat} {w w1 : World} (h : Kx w w1) (hB : B ≤ w.heap.size) : Ex B w w1 := fun x hx => h.block x (Nat.lt_of_lt_of_le hx hB)
/-- Lists of notes below B, none or some. -/
def LsOB (B : Nat) (w : World) (v : Value) (ns : List (List Plain.En)) : Prop := (ns = [] ∧ ∃ p c, v = .slice p 0 c) ∨ ∃ b off c, v = .slice (some ⟨b, off, none⟩) ns.length c ∧ LsB B w b off ns.length ns
theorem LsOB.keep {B : Nat} {w w1 : World} {v : Value} {ns : List (List Plain.En)} (h : LsOB B w v ns) (k : KeepB B w w1) : LsOB B w1 v ns := by
  rcases h with h | ⟨b, off, c, e, hL⟩
  · exact .inl h
  · exact .inr ⟨b, off, c, e, hL.keep k⟩
theorem LsOB.form {B : Nat} {w : World} {v : Value} {ns : List (List Plain.En)} (h : LsOB B w v ns) : ∃ p c, v = .slice p ns.length c := by
  rcases h with ⟨e, p, c, rfl⟩ | ⟨b, off, c, e, _⟩
  · exact ⟨p, c, by rw [e]; rfl⟩
  · exact ⟨_, c, e⟩

def LY (v tu ev : Value) (k : Nat) : List (Nat × Value) := [(0, v), (1, tu), (5, ev), (6, .int .i64 k)]

variable [Shift]
theorem headY_mi (hP : OkP Try.prog S0 V0) {ρ : Role} {σ : Sg} {k : List Item} {cs : List Frame} (t : Array Value) (w : World) (p : Option Addr) (n c : Nat) (tu ev : Value) (j : Nat) (hS : Sl t 101 (LY (.slice p n c) tu ev j))
    (K : ∀ (t' : Array Value) (w' : World), w'.heap = w.heap → Sl t' 101 ((25, .bool (decide (j < n ∧ j < 12))) :: LY (.slice p n c) tu ev j) → MI Try.prog S0 V0 ρ σ (bare 5 t') [] k cs w') :
    MI Try.prog S0 V0 ρ σ (bare 5 t) [] (.code (.region 3 (opsY 3) false) :: k) cs w := by
  refine MI.reg (r := [0, 1, 2, 3, 4, 5, 6, 7]) (by rw [sizeY3]; rfl) ?_
  refine MI.fragR hP okY3 fun T => ?_
  refine wo_mv hS (o := (opsY 3)[0]'(by rw [sizeY3]; decide)) 6 18 (.int .i64 j) rfl (.inl rfl) rfl rfl (by omega) (by simp [LY]) fun t1 hS1 => ?_
  refine wo_mv hS1 (o := (opsY 3)[1]'(by rw [sizeY3]; decide)) 0 19 (.slice p n c) rfl (.inl rfl) rfl rfl (by omega) (by simp [setS, LY]) fun t2 hS2 => ?_
  refine wo_vl hS2 (o := (opsY 3)[2]'(by rw [sizeY3]; decide)) 20 (.int .i64 n) rfl rfl rfl (by omega) (run_len (x := .tmp 19) (ty := 35) (el := 38) rfl Try.underlying35 p n c (hS2.ev (by simp [setS, LY]))) fun t3 hS3 => ?_
  refine wo_vl hS3 (o := (opsY 3)[3]'(by rw [sizeY3]; decide)) 21 (.bool (decide ((j : Int) < n))) rfl rfl rfl (by omega) (run_lss (x := .tmp 18) (y := .tmp 20) rfl j n (hS3.ev (by simp [setS, LY])) (hS3.ev (by simp [setS, LY]))) fun t4 hS4 => ?_
  refine wo_mv hS4 (o := (opsY 3)[4]'(by rw [sizeY3]; decide)) 21 22 (.bool (decide ((j : Int) < n))) rfl (.inl rfl) rfl rfl (by omega) (by simp [setS]) fun t5 hS5 => ?_
  by_cases hlt : j < n
  · rw [decide_eq_true (show (j : Int) < n by omega)] at hS5
    refine wo_vl hS5 (o := (opsY 3)[5]'(by rw [sizeY3]; decide)) 23 (.int .i64 j) rfl (wanted_of (o1 := (opsY 3)[4]'(by rw [sizeY3]; decide)) rfl rfl rfl (hS5.get (by simp [setS]))) rfl (by omega) (run_mv (x := .tmp 6) (.inl rfl) (hS5.ev (by simp [setS, LY]))) fun t6 hS6 => ?_
    refine wo_vl hS6 (o := (opsY 3)[6]'(by rw [sizeY3]; decide)) 24 (.bool (decide ((j : Int) < 12))) rfl (wanted_of (o1 := (opsY 3)[4]'(by rw [sizeY3]; decide)) rfl rfl rfl (hS6.get (by simp [setS]))) rfl (by omega) (run_lss (x := .tmp 23) (y := .const (.int .i64 12)) rfl j 12 (hS6.ev (by simp [setS])) rfl) fun t7 hS7 => ?_
    refine wo_vl hS7 (o := (opsY 3)[7]'(by rw [sizeY3]; decide)) 25 (.bool (decide ((j : Int) < 12))) rfl rfl rfl (by omega) (run_pick (c := .tmp 22) (x := .tmp 24) (y := .const (.bool false)) rfl (hS7.ev (by simp [setS])) (hS7.ev (by simp [setS]))) fun t8 hS8 => ?_
    refine wo_nil ⟨rfl, rfl, fun U => K t8 _ rfl ?_⟩
    have e : decide (j < n ∧ j < 12) = decide ((j : Int) < 12) := by
      by_cases h12 : j < 12
      · rw [decide_eq_true ⟨hlt, h12⟩, decide_eq_true (by omega)]
      · rw [decide_eq_false fun q => h12 q.2, decide_eq_false (by omega)]
    rw [e]
    exact hS8.sub (by simp [setS, LY])
  · rw [decide_eq_false (show ¬ (j : Int) < n by omega)] at hS5
    refine wo_skip hS5 (o := (opsY 3)[5]'(by rw [sizeY3]; decide)) 23 rfl (unwanted_of (o1 := (opsY 3)[4]'(by rw [sizeY3]; decide)) rfl rfl rfl (hS5.get (by simp [setS]))) rfl (by omega) fun t6 hS6 => ?_
    refine wo_skip hS6 (o := (opsY 3)[6]'(by rw [sizeY3]; decide)) 24 rfl (unwanted_of (o1 := (opsY 3)[4]'(by rw [sizeY3]; decide)) rfl rfl rfl (hS6.get (by simp [setS]))) rfl (by omega) fun t7 hS7 => ?_
    refine wo_vl hS7 (o := (opsY 3)[7]'(by rw [sizeY3]; decide)) 25 (.bool false) rfl rfl rfl (by omega) (run_pickF (c := .tmp 22) (x := .tmp 24) (y := .const (.bool false)) rfl (hS7.ev (by simp [setS])) rfl) fun t8 hS8 => ?_
    refine wo_nil ⟨rfl, rfl, fun U => K t8 _ rfl ?_⟩
    rw [decide_eq_false fun q => hlt q.1]
    exact hS8.sub (by simp [setS, LY])

/-- A list of notes is turned to entries, and laid into the row. -/
theorem insY_mi (hP : OkP Try.prog S0 V0) {ρ : Role} {σ : Sg} {k : List Item} {cs : List Frame} {B : Nat} (t : Array Value) (w : World) (b off n c : Nat) (tu ev : Value) (j : Nat) (y : Value) (l : List Plain.En) (ls : List (List Plain.En)) (hS : Sl t 101 (LY (.slice (some ⟨b, off, none⟩) n c) tu ev j)) (hj : j < n)
    (hc : w.cell? ⟨b, off + j, none⟩ = some y) (hy : SegN w y l) (hly : Lies w.heap.size y) (hl : l.length ≤ 9223372036854775807) (hin : ∀ i, i < l.length → InE (Plain.en l i)) (hR : RwL w B ev ls) (hB : B ≤ w.heap.size) (hn : ls.length ≤ 100)
    (K : ∀ (t' : Array Value) (w' : World) (ev' : Value), Sl t' 101 (LY (.slice (some ⟨b, off, none⟩) n c) tu ev' j) → RwL w' B ev' (ls ++ [Plain.eofs l (Plain.noteN l)]) → w.heap.size ≤ w'.heap.size → Ex B w w' → MI Try.prog S0 V0 ρ σ (bare 5 t') [] k cs w') :
    MI Try.prog S0 V0 ρ σ (bare 5 t) [] (.code bodyY1 :: k) cs w := by
  unfold bodyY1
  refine MI.seq (MI.reg (r := [0, 1, 2, 3, 4, 5, 6, 7, 8, 9]) (by rw [sizeY5]; rfl) ?_)
  refine MI.fragR hP okY5 fun T => ?_
  obtain ⟨wT, hwT⟩ : ∃ wT, wT = retape w T := ⟨_, rfl⟩
  have hT : wT.heap = w.heap := by rw [hwT]; rfl
  have kT : Kx w wT := .heap hT
  rw [← hwT]
  clear hwT
  refine wo_mv hS (o := (opsY 5)[0]'(by rw [sizeY5]; decide)) 0 29 (.slice (some ⟨b, off, none⟩) n c) rfl (.inl rfl) rfl rfl (by omega) (by simp [LY]) fun t1 hS1 => ?_
  refine wo_mv hS1 (o := (opsY 5)[1]'(by rw [sizeY5]; decide)) 6 30 (.int .i64 j) rfl (.inl rfl) rfl rfl (by omega) (by simp [setS, LY]) fun t2 hS2 => ?_
  refine wo_vl hS2 (o := (opsY 5)[2]'(by rw [sizeY5]; decide)) 31 (.pointer (some ⟨b, off + j, none⟩)) rfl rfl rfl (by omega) (run_ix (x := .tmp 29) (y := .tmp 30) (ty := 35) (el := 38) rfl Try.underlying35 (by kernel_rfl) b off n c j (hS2.ev (by simp [setS, LY])) (hS2.ev (by simp [setS, LY])) hj) fun t3 hS3 => ?_
  refine wo_vl hS3 (o := (opsY 5)[3]'(by rw [sizeY5]; decide)) 32 y rfl rfl rfl (by omega) (run_ld (x := .tmp 31) (ty := 38) rfl agg38 (hS3.ev (by simp [setS])) ((kT.k.cell _ (World.block_lt_of_cell? (w := w) (h := hc))).trans hc)) fun t4 hS4 => ?_
  refine wo_call hS4 (o := (opsY 5)[4]'(by rw [sizeY5]; decide)) 33 13 #[y] (fun u w1 => ∃ r, u = .tuple #[r, .bool true] ∧ HeldN w1 r (Plain.eofs l (Plain.noteN l)) ∧ Below wT.heap.size wT w1) rfl rfl rfl (by omega) (enterY5 ⟨t4, []⟩ _ _ (hS4.ev (by simp [setS]))) ?_ ?_
  · refine (entN_any y l hl hin wT (hy.keep kT.k) (by rw [hT]; exact hly)).mono ?_
    rintro e w1 ⟨r, rfl, h2, h3⟩
    exact ⟨_, rfl, r, rfl, h2, h3⟩
  rintro u w1 t5 ⟨r, rfl, hE, hb⟩ hS5
  refine wo_mv hS5 (o := (opsY 5)[5]'(by rw [sizeY5]; decide)) 33 28 (.tuple #[r, .bool true]) rfl (.inl rfl) rfl rfl (by omega) (by simp [setS]) fun t6 hS6 => ?_
  refine wo_vl hS6 (o := (opsY 5)[6]'(by rw [sizeY5]; decide)) 34 r rfl rfl rfl (by omega) (run_ext (x := .tmp 28) (j := 0) (vs := #[r, .bool true]) rfl (hS6.ev (by simp [setS])) rfl) fun t7 hS7 => ?_
  refine wo_vl hS7 (o := (opsY 5)[7]'(by rw [sizeY5]; decide)) 35 (.bool true) rfl rfl rfl (by omega) (run_ext (x := .tmp 28) (j := 1) (vs := #[r, .bool true]) rfl (hS7.ev (by simp [setS])) rfl) fun t8 hS8 => ?_
  refine wo_mv hS8 (o := (opsY 5)[8]'(by rw [sizeY5]; decide)) 34 7 r rfl (.inr rfl) rfl rfl (by omega) (by simp [setS]) fun t9 hS9 => ?_
  refine wo_mv hS9 (o := (opsY 5)[9]'(by rw [sizeY5]; decide)) 35 8 (.bool true) rfl (.inr rfl) rfl rfl (by omega) (by simp [setS]) fun t10 hS10 => ?_
  have hS10' : Sl t10 101 ((7, r) :: (8, .bool true) :: LY (.slice (some ⟨b, off, none⟩) n c) tu ev j) := hS10.sub (by simp [setS, LY])
  clear hS1 hS2 hS3 hS4 hS5 hS6 hS7 hS8 hS9 hS10
  refine wo_nil ⟨rfl, rfl, fun U => ?_⟩
  refine MI.seq (MI.seq (MI.reg (r := [0, 1]) (by rw [sizeY6]; rfl) ?_))
  refine MI.mv hS10' (o := (opsY 6)[0]'(by rw [sizeY6]; decide)) 8 36 (.bool true) rfl (.inl rfl) rfl rfl (by omega) (by simp) fun t11 U11 hS11 => ?_
  refine MI.vl hS11 (o := (opsY 6)[1]'(by rw [sizeY6]; decide)) 37 (.bool false) rfl rfl rfl (by omega) (by kernel_rfl) (fun T => run_not (x := .tmp 36) (q := true) rfl (hS11.ev (by simp [setS]))) fun t12 U12 hS12 => MI.regE ?_
  refine MI.cond (q := false) rfl (hS12.ev (by simp [setS])) ?_
  refine MI.ctl (k1 := .code (.region 8 (opsY 8) false) :: k) (fun _ _ _ _ _ => stepG_skip) ?_
  refine MI.reg (r := [0, 1, 2, 3, 4]) (by rw [sizeY8]; rfl) ?_
  refine MI.fragR hP okY8 fun T2 => ?_
  obtain ⟨w2, hw2⟩ : ∃ w2, w2 = retape (onT (onT (onT w1 U) U11) U12) T2 := ⟨_, rfl⟩
  have h2 : w2.heap = w1.heap := by rw [hw2]; rfl
  have k2 : Kx w w2 := (kT.trans (Kx.below hb)).trans (.heap h2)
  have hE2 : HeldN w2 r (Plain.eofs l (Plain.noteN l)) := hE.kx (.heap h2)
  have hR2 : RwL w2 B ev ls := hR.kx k2
  rw [← hw2]
  clear hw2
  obtain ⟨rp, rn, rc, rfl⟩ := segN_form hE2.seg
  obtain ⟨rs, hO, hrs⟩ := hR2
  refine wo_mv hS12 (o := (opsY 8)[0]'(by rw [sizeY8]; decide)) 5 38 ev rfl (.inl rfl) rfl rfl (by omega) (by simp [setS, LY]) fun t13 hS13 => ?_
  refine wo_mv hS13 (o := (opsY 8)[1]'(by rw [sizeY8]; decide)) 7 39 (.slice rp rn rc) rfl (.inl rfl) rfl rfl (by omega) (by simp [setS]) fun t14 hS14 => ?_
  refine wo_ow hS14 (o := (opsY 8)[2]'(by rw [sizeY8]; decide)) 40 rfl rfl rfl (by omega) (run_bs1 (s := 39) (p := rp) (n := rn) (c := rc) rfl (hS14.ev (by simp [setS]))) fun t15 hS15 => ?_
  obtain ⟨w3, hw3⟩ : ∃ w3, w3 = w2.alloc (.cells #[.slice rp rn rc] 30 (0, 0)) := ⟨_, rfl⟩
  have h3 : w3.heap = w2.heap.push (.cells #[.slice rp rn rc] 30 (0, 0)) := by rw [hw3]; rfl
  rw [← hw3]
  clear hw3
  have g3 : w3.heap[w2.heap.size]? = some (.cells #[.slice rp rn rc] 30 (0, 0)) := by rw [h3, Array.getElem?_push]; simp
  have o3 : ∀ x, x < w2.heap.size → w3.heap[x]? = w2.heap[x]? := fun x hx => by rw [h3, Array.getElem?_push, if_neg (by omega)]
  have s3 : w2.heap.size ≤ w3.heap.size := by rw [h3]; simp
  have k3 : Kx w2 w3 := ⟨s3, o3⟩
  have O3 := owns_old hO o3
  have lr : rs.length = ls.length := by have := hO.1; omega
  obtain ⟨i, hi, hs, hby, hz⟩ := info30
  obtain ⟨v', w', r1, r2, r3, r4⟩ := run_app (P := Try.prog) (e := Act.eval ⟨t15, []⟩) (w := w3) (o := (opsY 8)[3]'(by rw [sizeY8]; decide)) (x := .tmp 38) (y := .tmp 40) (ty := 29) (el := 30) rfl Try.underlying29 hi hz hs hby rfl (by omega) B ev ls.length rs O3
    ⟨w2.heap.size, 0, none⟩ 1 1 [.slice rp rn rc] rfl (fun q u hq => by
      cases q with
      | zero => simp at hq; subst hq; exact cell_is (w := w3) g3 rfl
      | succ q => simp at hq) (fun u hu => by simp at hu; subst hu; rfl) (by omega) (Nat.le_trans hB (Nat.le_trans k2.size s3)) (hS15.ev (by simp [setS, LY])) (hS15.ev (by simp [setS]))
  refine wo_ow hS15 (o := (opsY 8)[3]'(by rw [sizeY8]; decide)) 41 rfl rfl rfl (by omega) r1 fun t16 hS16 => ?_
  refine wo_mv hS16 (o := (opsY 8)[4]'(by rw [sizeY8]; decide)) 41 5 v' rfl (.inr rfl) rfl rfl (by omega) (by simp [setS]) fun t17 hS17 => ?_
  refine wo_nil ⟨rfl, rfl, fun U3 => ?_⟩
  have g' : Gr ev.ownBlock w3 w' := ⟨r3.size, r3.block⟩
  have hF : ∀ x, ev.ownBlock = some x → ∃ cs T f, w3.heap[x]? = some (.cells cs T f) ∧ T ≠ 41 := RwL.blk ⟨rs, O3, fun q hq => let ⟨r, q1, q2⟩ := hrs q hq; ⟨r, q1, q2.kx k3⟩⟩
  have fin : RwL w' B v' (ls ++ [Plain.eofs l (Plain.noteN l)]) := RwL.mk r2 lr (fun q hq => by
    obtain ⟨r, q1, q2⟩ := hrs q hq
    exact ⟨r, q1, (q2.kx k3).gr g' hF⟩) (fun q hq => by
    obtain rfl : q = 0 := by simp at hq; omega
    exact ⟨_, rfl, (hE2.kx k3).gr g' hF⟩)
  refine K t17 (onT w' U3) v' (hS17.sub (by simp [setS, LY])) (fin.kx (Kx.onT w' U3)) (Nat.le_trans k2.size (Nat.le_trans s3 g'.size)) ?_
  exact ((k2.ex hB).trans (k3.ex (Nat.le_trans hB k2.size))).trans (g'.ex (Nat.le_trans hB (Nat.le_trans k2.size s3)) fun x hx => (O3.lt x hx).1)
end Go.Proofs.Ytcobehkadhcjiaa

/-
  keep.CrewAny: its first loop, whole; its second loop.
-/
namespace Go.Proofs.Ytcobehkadhcjiaa
open Go Go.Conc Go.RowKit Go.Sort Go.Shelf

variable [Shift]
theorem loopY1_mi (hP : OkP Try.prog S0 V0) {ρ : Role} {σ : Sg} {k : List Item} {cs : List Frame} {B : Nat} (ns : List (List Plain.En)) (v tu : Value) (hls : ∀ j, (ns.getD j []).length ≤ 9223372036854775807) (hin : ∀ j, j < ns.length → ∀ i, i < (ns.getD j []).length → InE (Plain.en (ns.getD j []) i)) :
    ∀ (r : Nat) (t : Array Value) (w : World) (ev : Value) (j : Nat), j + r = min ns.length 12 → Sl t 101 (LY v tu ev j) → RwL w B ev (Plain.els ns j) → LsOB B w v ns → B ≤ w.heap.size →
    (∀ (t' : Array Value) (w' : World) (ev' : Value), Sl t' 101 (LY v tu ev' (min ns.length 12)) → RwL w' B ev' (Plain.els ns (min ns.length 12)) → B ≤ w'.heap.size → Ex B w w' → MI Try.prog S0 V0 ρ σ (bare 5 t') [] k cs w') →
    MI Try.prog S0 V0 ρ σ (bare 5 t) [] (.code rndY1 :: .inLoop rndY1 :: .inBlock 0 :: k) cs w := by
  intro r
  induction r with
  | zero =>
    intro t w ev j hj hS hR hL hB K
    obtain ⟨p, c, rfl⟩ := hL.form
    rw [rndY1_is]
    refine MI.seq (MI.seq (headY_mi hP t w p ns.length c tu ev j hS fun t1 w1 h1 hS1 => ?_))
    refine MI.cond (q := decide (j < ns.length ∧ j < 12)) rfl (hS1.ev (by simp)) ?_
    rw [decide_eq_false (by omega)]
    refine MI.ctl (k1 := k) (fun _ _ _ _ _ => stepG_exit rfl) ?_
    obtain rfl : j = min ns.length 12 := by omega
    exact K t1 w1 ev (hS1.sub fun q hq => List.mem_cons_of_mem _ hq) (hR.kx (.heap h1)) (by rw [h1]; exact hB) (fun x _ => by rw [h1])
  | succ r ih =>
    intro t w ev j hj hS hR hL hB K
    obtain ⟨p, c, rfl⟩ := hL.form
    have hjn : j < ns.length := by omega
    rw [rndY1_is]
    refine MI.seq (MI.seq (headY_mi hP t w p ns.length c tu ev j hS fun t1 w1 h1 hS1 => ?_))
    refine MI.cond (q := decide (j < ns.length ∧ j < 12)) rfl (hS1.ev (by simp)) ?_
    rw [decide_eq_true (by omega)]
    refine MI.ctl (k1 := .code (.seq (.block 1 bodyY1) (.region 4 (opsY 4) false)) :: .inLoop rndY1 :: .inBlock 0 :: k) (fun _ _ _ _ _ => stepG_skip) ?_
    refine MI.seq ?_
    refine MI.ctl (k1 := .code bodyY1 :: .inBlock 1 :: .code (.region 4 (opsY 4) false) :: .inLoop rndY1 :: .inBlock 0 :: k) (fun _ _ _ _ _ => stepG_block) ?_
    have k1 : Kx w w1 := .heap h1
    have hB1 : B ≤ w1.heap.size := by rw [h1]; exact hB
    have hL1 := hL.keep (KeepB.of_ex k1.size (k1.ex hB))
    obtain ⟨b, off, c2, ev2, hLs⟩ : ∃ b off c2, (Value.slice p ns.length c) = .slice (some ⟨b, off, none⟩) ns.length c2 ∧ LsB B w1 b off ns.length ns := by
      rcases hL1 with ⟨e, _⟩ | q
      · rw [e] at hjn; simp at hjn
      · exact q
    cases ev2
    obtain ⟨y, hy, hE⟩ := hLs.at_ j hjn
    refine insY_mi hP t1 w1 b off ns.length c tu ev j y (ns.getD j []) (Plain.els ns j) (hS1.sub fun q hq => List.mem_cons_of_mem _ hq) hjn hy hE.seg (hE.lies.mono hB1) (hls j) (hin j hjn) (hR.kx k1) hB1 (by rw [Plain.els_length (by omega)]; omega) fun t2 w2 ev2 hS2 hR2 s2 x2 => ?_
    rw [← Plain.els_succ hjn] at hR2
    refine MI.ctl (k1 := .code (.region 4 (opsY 4) false) :: .inLoop rndY1 :: .inBlock 0 :: k) (fun _ _ _ _ _ => stepG_inBlock) ?_
    refine MI.reg (r := [0, 1, 2]) (by rw [sizeY4]; rfl) ?_
    refine MI.mv hS2 (o := (opsY 4)[0]'(by rw [sizeY4]; decide)) 6 26 (.int .i64 j) rfl (.inl rfl) rfl rfl (by omega) (by simp [LY]) fun t3 U3 hS3 => ?_
    refine MI.vl hS3 (o := (opsY 4)[1]'(by rw [sizeY4]; decide)) 27 (.int .i64 ((j : Int) + 1)) rfl rfl rfl (by omega) (by kernel_rfl) (fun T => run_addi (x := .tmp 26) (y := .const (.int .i64 1)) rfl j 1 (hS3.ev (by simp [setS])) rfl (by rw [IntKind.wrap_i64]; omega)) fun t4 U4 hS4 => ?_
    refine MI.mv hS4 (o := (opsY 4)[2]'(by rw [sizeY4]; decide)) 27 6 (.int .i64 ((j : Int) + 1)) rfl (.inr rfl) rfl rfl (by omega) (by simp [setS]) fun t5 U5 hS5 => MI.regE ?_
    refine MI.ctl (k1 := .code rndY1 :: .inLoop rndY1 :: .inBlock 0 :: k) (fun _ _ _ _ _ => stepG_inLoop) ?_
    obtain ⟨w5, hw5⟩ : ∃ w5, w5 = onT (onT (onT w2 U3) U4) U5 := ⟨_, rfl⟩
    have h5 : w5.heap = w2.heap := by rw [hw5]; rfl
    rw [← hw5]
    clear hw5
    have x5 : Ex B w w5 := ((k1.ex hB).trans x2).trans fun x _ => by rw [h5]
    have s5 : w.heap.size ≤ w5.heap.size := by rw [h5]; exact Nat.le_trans k1.size s2
    exact ih t5 w5 ev2 (j + 1) (by omega) (hS5.sub (by simp [setS, LY])) (hR2.kx (.heap h5)) (hL.keep (KeepB.of_ex s5 x5)) (Nat.le_trans hB s5) fun t6 w6 ev6 hS6 hR6 hB6 x6 => K t6 w6 ev6 hS6 hR6 hB6 (x5.trans x6)

def LZ (ev tu ov : Value) (n j : Nat) : List (Nat × Value) := [(1, tu), (5, ev), (9, .int .i64 n), (10, ov), (11, .int .i64 j)]

theorem head2Y_mi {ρ : Role} {σ : Sg} {k : List Item} {cs : List Frame} (t : Array Value) (w : World) (ev tu ov : Value) (n j : Nat) (hS : Sl t 101 (LZ ev tu ov n j))
    (K : ∀ (t' : Array Value) (w' : World), w'.heap = w.heap → Sl t' 101 ((46, .bool (decide (j < n))) :: LZ ev tu ov n j) → MI Try.prog S0 V0 ρ σ (bare 5 t') [] k cs w') :
    MI Try.prog S0 V0 ρ σ (bare 5 t) [] (.code (.region 12 (opsY 12) false) :: k) cs w := by
  refine MI.reg (r := [0, 1, 2]) (by rw [sizeY12]; rfl) ?_
  refine MI.mv hS (o := (opsY 12)[0]'(by rw [sizeY12]; decide)) 11 44 (.int .i64 j) rfl (.inl rfl) rfl rfl (by omega) (by simp [LZ]) fun t1 U1 hS1 => ?_
  refine MI.mv hS1 (o := (opsY 12)[1]'(by rw [sizeY12]; decide)) 9 45 (.int .i64 n) rfl (.inl rfl) rfl rfl (by omega) (by simp [setS, LZ]) fun t2 U2 hS2 => ?_
  refine MI.vl hS2 (o := (opsY 12)[2]'(by rw [sizeY12]; decide)) 46 (.bool (decide ((j : Int) < n))) rfl rfl rfl (by omega) (by kernel_rfl) (fun T => run_lss (x := .tmp 44) (y := .tmp 45) rfl j n (hS2.ev (by simp [setS])) (hS2.ev (by simp [setS]))) fun t3 U3 hS3 => MI.regE ?_
  refine K t3 _ rfl ?_
  have e : decide (j < n) = decide ((j : Int) < (n : Int)) := by
    by_cases h : j < n
    · rw [decide_eq_true h, decide_eq_true (by omega)]
    · rw [decide_eq_false h, decide_eq_false (by omega)]
  rw [e]
  exact hS3.sub (by simp [setS, LZ])

omit [Shift] in
theorem run_remi {P : Program} {e : Operand → Value} {w : World} {o : Oper} {x y : Operand} (ho : o.op = .binOp .rem 3 x y 3) (i j : Nat) (h1 : e x = .int .i64 i) (h2 : e y = .int .i64 j) (hj : 0 < j) : (execOp e o).run P w = .ok (.value (.int .i64 ((i % j : Nat) : Int))) w := by
  have e1 : (i : Int).tmod j = (i : Int) % j := Int.tmod_eq_emod_of_nonneg (by omega)
  unfold execOp
  rw [ho]
  simp only [h1, h2]
  simp [go_sem, e1]
  omega
end Go.Proofs.Ytcobehkadhcjiaa

/-
  keep.CrewAny: its second loop.
-/
namespace Go.Proofs.Ytcobehkadhcjiaa
open Go Go.Conc Go.RowKit Go.Sort Go.Shelf

theorem run_app2 {e : Operand → Value} {w : World} {o : Oper} {x y : Operand} (ho : o.op = .call { callee := .builtin .append, args := #[x, y], argTypes := #[29, 29] }) {B B2 n m : Nat} {v u : Value} {xs ys : List Value} (hO : w.ownsRow B 30 1 v n xs) (hU : w.ownsRow B2 30 1 u m ys)
    (h1 : ∀ z ∈ ys, z.oneCell' = true) (hn : n + m ≤ 100000) (hB : B ≤ w.heap.size) (e1 : e x = v) (e2 : e y = u) : ∃ v' w', (execOp e o).run Try.prog w = .ok (.value v') w' ∧ w'.ownsRow B 30 1 v' (n + m) (xs ++ ys) ∧ w.grownBy w' v.ownBlock := by
  obtain ⟨i, hi, hs, hby, hz⟩ := info30
  obtain ⟨v', w', r1, r2, r3⟩ := run_app_owned (P := Try.prog) (ty := o.type) Try.underlying29 hi hz hs hby rfl (by omega) hO hU h1 (by unfold maxLen; omega) (by omega) hB
  refine ⟨v', w', ?_, r2, r3⟩
  unfold execOp
  rw [ho]
  simp [resolve, invoke, builtin, e1, e2, r1]
theorem RwL.one {w : World} {B : Nat} {v : Value} {ls : List (List Plain.En)} {rs : List Value} (h1 : w.ownsRow B 30 1 v ls.length rs) (h2 : ∀ j, j < ls.length → ∃ r, rs[j]? = some r ∧ HeldN w r (ls.getD j [])) : ∀ z ∈ rs, z.oneCell' = true := fun z hz => by
  obtain ⟨j, hj⟩ := List.getElem?_of_mem hz
  have hl : j < ls.length := by
    have := (List.getElem?_eq_some_iff.1 hj).1
    have := h1.1
    omega
  obtain ⟨r, q1, q2⟩ := h2 j hl
  rw [q1] at hj
  cases hj
  obtain ⟨p, n, c, rfl⟩ := segN_form q2.seg
  rfl

variable [Shift]
set_option maxHeartbeats 400000 in
theorem insZ_mi (hP : OkP Try.prog S0 V0) {ρ : Role} {σ : Sg} {k : List Item} {cs : List Frame} {B : Nat} (t : Array Value) (w : World) (ev ov : Value) (a : Int) (n j : Nat) (es os : List (List Plain.En)) (ha1 : -9223372036854775808 ≤ a) (ha2 : a ≤ 9223372036854775807) (hS : Sl t 101 (LZ ev (.int .i64 a) ov n j)) (hj : j < n) (hn : n ≤ 12)
    (hE : RwL w B ev es) (he : es.length = n) (hR : RwL w B ov os) (ho : os.length ≤ 100) (hB : B ≤ w.heap.size)
    (K : ∀ (t' : Array Value) (w' : World) (ov' : Value) (l : List Plain.En), l ∈ es → Sl t' 101 (LZ ev (.int .i64 a) ov' n j) → RwL w' B ov' (l :: os) → RwL w' B ev es → w.heap.size ≤ w'.heap.size → Ex B w w' → MI Try.prog S0 V0 ρ σ (bare 5 t') [] k cs w') :
    MI Try.prog S0 V0 ρ σ (bare 5 t) [] (.code (.region 14 (opsY 14) false) :: k) cs w := by
  subst he
  refine MI.reg (r := [0, 1, 2, 3, 4, 5, 6, 7, 8, 9, 10, 11, 12, 13]) (by rw [sizeY14]; rfl) ?_
  refine MI.fragR hP okY14 fun T => ?_
  obtain ⟨wT, hwT⟩ : ∃ wT, wT = retape w T := ⟨_, rfl⟩
  have hT : wT.heap = w.heap := by rw [hwT]; rfl
  have kT : Kx w wT := .heap hT
  rw [← hwT]
  clear hwT
  obtain ⟨q, hq, hqn⟩ : ∃ q : Nat, a % (es.length : Int) = q ∧ q < es.length := ⟨(a % (es.length : Int)).toNat, by
    have := Int.emod_nonneg a (show (es.length : Int) ≠ 0 by omega)
    omega, by
    have := Int.emod_lt_of_pos a (show (0 : Int) < es.length by omega)
    have := Int.emod_nonneg a (show (es.length : Int) ≠ 0 by omega)
    omega⟩
  refine wo_mv hS (o := (opsY 14)[0]'(by rw [sizeY14]; decide)) 5 49 ev rfl (.inl rfl) rfl rfl (by omega) (by simp [LZ]) fun t1 hS1 => ?_
  refine wo_mv hS1 (o := (opsY 14)[1]'(by rw [sizeY14]; decide)) 11 50 (.int .i64 j) rfl (.inl rfl) rfl rfl (by omega) (by simp [setS, LZ]) fun t2 hS2 => ?_
  refine wo_mv hS2 (o := (opsY 14)[2]'(by rw [sizeY14]; decide)) 1 51 (.int .i64 a) rfl (.inl rfl) rfl rfl (by omega) (by simp [setS, LZ]) fun t3 hS3 => ?_
  refine wo_mv hS3 (o := (opsY 14)[3]'(by rw [sizeY14]; decide)) 9 52 (.int .i64 es.length) rfl (.inl rfl) rfl rfl (by omega) (by simp [setS, LZ]) fun t4 hS4 => ?_
  refine wo_call hS4 (o := (opsY 14)[4]'(by rw [sizeY14]; decide)) 53 14 #[.int .i64 a, .int .i64 es.length] (fun u w1 => u = .int .i64 q ∧ Kx wT w1) rfl rfl rfl (by omega) (enterY14 ⟨t4, []⟩ _ _ _ (hS4.ev (by simp [setS])) (hS4.ev (by simp [setS]))) ?_ ?_
  · refine (picked_any a es.length ha1 ha2 (by omega) (by omega) wT).mono ?_
    rintro e w' ⟨rfl, rfl⟩
    exact ⟨_, rfl, by rw [hq], Kx.refl _⟩
  rintro u w1 t5 ⟨rfl, k1⟩ hS5
  refine wo_vl hS5 (o := (opsY 14)[5]'(by rw [sizeY14]; decide)) 54 (.int .i64 ((j : Int) + q)) rfl rfl rfl (by omega) (run_addi (x := .tmp 50) (y := .tmp 53) rfl j q (hS5.ev (by simp [setS])) (hS5.ev (by simp [setS])) (by rw [IntKind.wrap_i64]; omega)) fun t6 hS6 => ?_
  refine wo_mv hS6 (o := (opsY 14)[6]'(by rw [sizeY14]; decide)) 9 55 (.int .i64 es.length) rfl (.inl rfl) rfl rfl (by omega) (by simp [setS, LZ]) fun t7 hS7 => ?_
  refine wo_vl hS7 (o := (opsY 14)[7]'(by rw [sizeY14]; decide)) 56 (.int .i64 (((j + q) % es.length : Nat) : Int)) rfl rfl rfl (by omega) (run_remi (x := .tmp 54) (y := .tmp 55) rfl (j + q) es.length ((hS7.ev (v := .int .i64 ((j : Int) + q)) (by simp [setS])).trans (by simp)) (hS7.ev (by simp [setS])) (by omega)) fun t8 hS8 => ?_
  have hidx : (j + q) % es.length < es.length := Nat.mod_lt _ (by omega)
  have hE1 := (hE.kx kT).kx k1
  have hR1 := (hR.kx kT).kx k1
  obtain ⟨re, hOe, hre⟩ := hE1
  obtain ⟨g, cap, rfl, _, hcap, hg, hcell⟩ := owns_head hOe (by omega)
  obtain ⟨r, hr, hH⟩ := hre ((j + q) % es.length) (by omega)
  refine wo_vl hS8 (o := (opsY 14)[8]'(by rw [sizeY14]; decide)) 57 (.pointer (some ⟨g, 0 + (j + q) % es.length, none⟩)) rfl rfl rfl (by omega) (run_ix (x := .tmp 49) (y := .tmp 56) (ty := 29) (el := 30) rfl Try.underlying29 (by kernel_rfl) g 0 es.length cap ((j + q) % es.length) (hS8.ev (by simp [setS])) (hS8.ev (by simp [setS])) hidx) fun t9 hS9 => ?_
  obtain ⟨rp, rn, rc, rfl⟩ := segN_form hH.seg
  refine wo_vl hS9 (o := (opsY 14)[9]'(by rw [sizeY14]; decide)) 58 (.slice rp rn rc) rfl rfl rfl (by omega) (run_ld (x := .tmp 57) (ty := 30) rfl agg30 (hS9.ev (by simp [setS])) (hcell _ _ hr)) fun t10 hS10 => ?_
  refine wo_ow hS10 (o := (opsY 14)[10]'(by rw [sizeY14]; decide)) 59 rfl rfl rfl (by omega) (run_bs1 (s := 58) (p := rp) (n := rn) (c := rc) rfl (hS10.ev (by simp [setS]))) fun t11 hS11 => ?_
  refine wo_mv hS11 (o := (opsY 14)[11]'(by rw [sizeY14]; decide)) 10 60 ov rfl (.inl rfl) rfl rfl (by omega) (by simp [setS, LZ]) fun t12 hS12 => ?_
  have hB1 : B ≤ w1.heap.size := Nat.le_trans hB (Nat.le_trans kT.size k1.size)
  have lit : (w1.alloc (.cells #[.slice rp rn rc] 30 (0, 0))).ownsRow B 30 1 (.slice (some ⟨w1.heap.size, 0, none⟩) 1 1) 1 [.slice rp rn rc] := World.ownsRow_lit w1 #[.slice rp rn rc] 1 hB1 (by unfold maxLen; omega) rfl
  obtain ⟨w3, hw3⟩ : ∃ w3, w3 = w1.alloc (.cells #[.slice rp rn rc] 30 (0, 0)) := ⟨_, rfl⟩
  have h3 : w3.heap = w1.heap.push (.cells #[.slice rp rn rc] 30 (0, 0)) := by rw [hw3]; rfl
  rw [← hw3] at lit ⊢
  clear hw3
  have k3 : Kx w1 w3 := ⟨by rw [h3]; simp, fun x hx => by rw [h3, Array.getElem?_push, if_neg (by omega)]⟩
  obtain ⟨ro, hOo, hro⟩ := hR1.kx k3
  obtain ⟨v', w', r1, r2, r3⟩ := run_app2 (e := Act.eval ⟨t12, []⟩) (o := (opsY 14)[12]'(by rw [sizeY14]; decide)) (x := .tmp 59) (y := .tmp 60) rfl lit hOo (RwL.one hOo hro) (by omega) (Nat.le_trans hB1 k3.size) (hS12.ev (by simp [setS])) (hS12.ev (by simp [setS]))
  refine wo_ow hS12 (o := (opsY 14)[12]'(by rw [sizeY14]; decide)) 61 rfl rfl rfl (by omega) r1 fun t13 hS13 => ?_
  refine wo_mv hS13 (o := (opsY 14)[13]'(by rw [sizeY14]; decide)) 61 10 v' rfl (.inr rfl) rfl rfl (by omega) (by simp [setS]) fun t14 hS14 => ?_
  refine wo_nil ⟨rfl, rfl, fun U => ?_⟩
  have g' : Gr (some w1.heap.size) w3 w' := ⟨r3.size, r3.block⟩
  have hF : ∀ x, some w1.heap.size = some x → ∃ cs T f, w3.heap[x]? = some (.cells cs T f) ∧ T ≠ 41 := fun x hx => by
    cases hx
    exact ⟨#[.slice rp rn rc], 30, (0, 0), by rw [h3, Array.getElem?_push]; simp, by decide⟩
  have fin : RwL w' B v' ([es.getD ((j + q) % es.length) []] ++ os) := RwL.mk r2 rfl (fun i hi => by
    obtain rfl : i = 0 := by simp at hi; omega
    exact ⟨_, rfl, (hH.kx k3).gr g' hF⟩) (fun i hi => by
    obtain ⟨r, q1, q2⟩ := hro i hi
    exact ⟨r, q1, q2.gr g' hF⟩)
  have kw : Kx w w3 := (kT.trans k1).trans k3
  have finE : RwL w' B (.slice (some ⟨g, 0, none⟩) es.length cap) es := (hE.kx kw).gr g' hF fun x hx => by
    cases hx
    intro e
    have e' : g = w1.heap.size := Option.some.inj e
    omega
  refine K t14 (onT w' U) v' (es.getD ((j + q) % es.length) []) ?_ (hS14.sub (by simp [setS, LZ])) (fin.kx (Kx.onT w' U)) (finE.kx (Kx.onT w' U)) (Nat.le_trans kw.size g'.size) ?_
  · rw [Plain.getD_lt (by omega)]
    exact List.getElem_mem _
  · exact (kw.ex hB).trans (g'.ex (Nat.le_trans hB kw.size) fun x hx => by cases hx; exact hB1)
end Go.Proofs.Ytcobehkadhcjiaa

/-
  keep.CrewAny: its second loop, whole; MergeAll is called.
-/
namespace Go.Proofs.Ytcobehkadhcjiaa
open Go Go.Conc Go.RowKit Go.Sort Go.Shelf

variable [Shift]
theorem loopY2_mi (hP : OkP Try.prog S0 V0) {ρ : Role} {σ : Sg} {k : List Item} {cs : List Frame} {B : Nat} (ev : Value) (a : Int) (n : Nat) (es : List (List Plain.En)) (ha1 : -9223372036854775808 ≤ a) (ha2 : a ≤ 9223372036854775807) (hn : n ≤ 12) (he : es.length = n) :
    ∀ (r : Nat) (t : Array Value) (w : World) (ov : Value) (j : Nat) (os : List (List Plain.En)), j + r = n → os.length = j → (∀ l ∈ os, l ∈ es) → Sl t 101 (LZ ev (.int .i64 a) ov n j) → RwL w B ev es → RwL w B ov os → B ≤ w.heap.size →
    (∀ (t' : Array Value) (w' : World) (ov' : Value) (os' : List (List Plain.En)), os'.length = n → (∀ l ∈ os', l ∈ es) → Sl t' 101 (LZ ev (.int .i64 a) ov' n n) → RwL w' B ev es → RwL w' B ov' os' → B ≤ w'.heap.size → Ex B w w' → MI Try.prog S0 V0 ρ σ (bare 5 t') [] k cs w') →
    MI Try.prog S0 V0 ρ σ (bare 5 t) [] (.code rndY2 :: .inLoop rndY2 :: .inBlock 2 :: k) cs w := by
  intro r
  induction r with
  | zero =>
    intro t w ov j os hj ho hm hS hE hR hB K
    rw [rndY2_is]
    refine MI.seq (MI.seq (head2Y_mi t w ev _ ov n j hS fun t1 w1 h1 hS1 => ?_))
    refine MI.cond (q := decide (j < n)) rfl (hS1.ev (by simp)) ?_
    rw [decide_eq_false (by omega)]
    refine MI.ctl (k1 := k) (fun _ _ _ _ _ => stepG_exit rfl) ?_
    obtain rfl : j = n := by omega
    exact K t1 w1 ov os ho hm (hS1.sub fun q hq => List.mem_cons_of_mem _ hq) (hE.kx (.heap h1)) (hR.kx (.heap h1)) (by rw [h1]; exact hB) (fun x _ => by rw [h1])
  | succ r ih =>
    intro t w ov j os hj ho hm hS hE hR hB K
    rw [rndY2_is]
    refine MI.seq (MI.seq (head2Y_mi t w ev _ ov n j hS fun t1 w1 h1 hS1 => ?_))
    refine MI.cond (q := decide (j < n)) rfl (hS1.ev (by simp)) ?_
    rw [decide_eq_true (by omega)]
    refine MI.ctl (k1 := .code (.seq (.block 3 (.region 14 (opsY 14) false)) (.region 13 (opsY 13) false)) :: .inLoop rndY2 :: .inBlock 2 :: k) (fun _ _ _ _ _ => stepG_skip) ?_
    refine MI.seq ?_
    refine MI.ctl (k1 := .code (.region 14 (opsY 14) false) :: .inBlock 3 :: .code (.region 13 (opsY 13) false) :: .inLoop rndY2 :: .inBlock 2 :: k) (fun _ _ _ _ _ => stepG_block) ?_
    have k1 : Kx w w1 := .heap h1
    have hB1 : B ≤ w1.heap.size := by rw [h1]; exact hB
    refine insZ_mi hP t1 w1 ev ov a n j es os ha1 ha2 (hS1.sub fun q hq => List.mem_cons_of_mem _ hq) (by omega) hn (hE.kx k1) he (hR.kx k1) (by omega) hB1 fun t2 w2 ov2 l hl hS2 hR2 hE2 s2 x2 => ?_
    refine MI.ctl (k1 := .code (.region 13 (opsY 13) false) :: .inLoop rndY2 :: .inBlock 2 :: k) (fun _ _ _ _ _ => stepG_inBlock) ?_
    refine MI.reg (r := [0, 1, 2]) (by rw [sizeY13]; rfl) ?_
    refine MI.mv hS2 (o := (opsY 13)[0]'(by rw [sizeY13]; decide)) 11 47 (.int .i64 j) rfl (.inl rfl) rfl rfl (by omega) (by simp [LZ]) fun t3 U3 hS3 => ?_
    refine MI.vl hS3 (o := (opsY 13)[1]'(by rw [sizeY13]; decide)) 48 (.int .i64 ((j : Int) + 1)) rfl rfl rfl (by omega) (by kernel_rfl) (fun T => run_addi (x := .tmp 47) (y := .const (.int .i64 1)) rfl j 1 (hS3.ev (by simp [setS])) rfl (by rw [IntKind.wrap_i64]; omega)) fun t4 U4 hS4 => ?_
    refine MI.mv hS4 (o := (opsY 13)[2]'(by rw [sizeY13]; decide)) 48 11 (.int .i64 ((j : Int) + 1)) rfl (.inr rfl) rfl rfl (by omega) (by simp [setS]) fun t5 U5 hS5 => MI.regE ?_
    refine MI.ctl (k1 := .code rndY2 :: .inLoop rndY2 :: .inBlock 2 :: k) (fun _ _ _ _ _ => stepG_inLoop) ?_
    obtain ⟨w5, hw5⟩ : ∃ w5, w5 = onT (onT (onT w2 U3) U4) U5 := ⟨_, rfl⟩
    have h5 : w5.heap = w2.heap := by rw [hw5]; rfl
    rw [← hw5]
    clear hw5
    have x5 : Ex B w w5 := ((k1.ex hB).trans x2).trans fun x _ => by rw [h5]
    have s5 : w.heap.size ≤ w5.heap.size := by rw [h5]; exact Nat.le_trans k1.size s2
    exact ih t5 w5 ov2 (j + 1) (l :: os) (by omega) (by simp [ho]) (fun m hm' => (List.mem_cons.1 hm').elim (fun e => by rw [e]; exact hl) (hm m)) (hS5.sub (by simp [setS, LZ])) (hE2.kx (.heap h5)) (hR2.kx (.heap h5)) (Nat.le_trans hB s5) fun t6 w6 ov6 os6 ho6 hm6 hS6 hE6 hR6 hB6 x6 => K t6 w6 ov6 os6 ho6 hm6 hS6 hE6 hR6 hB6 (x5.trans x6)

/-- MergeAll is called. -/
theorem callA_mi (hP : OkP Try.prog S0 V0) {post : Value → World → Prop} {f : FuncId} {t : Array Value} {ops : Array Oper} {i : Nat} {rest : List Nat} {o : Oper} {k : List Item} {cs : List Frame} {w : World} {n : Nat} {l : List (Nat × Value)} (hS : Sl t n l) (s d : Nat) (v : Value) (ls : List (List Plain.En))
    (ho : ops[i]? = some o) (hd : o.dst = some d) (hg : o.guard = none) (hn : d < n) (hm : (s, v) ∈ l)
    (hen : ∀ (e : Act) (w' : World) es, (execOp e.eval o).run Try.prog w' = .ok (.enter 10 (#[Operand.tmp s].map e.eval)) w' ∧ (execOp e.eval o).events Try.prog w' es = es)
    (hls : ∀ j, (ls.getD j []).length ≤ 9223372036854775807) (hbig : ls.length ≤ 9223372036854775807) (hL : LsO w v ls)
    (K : ∀ (t' : Array Value) (w' : World) (r : Value), Sl t' n (setS d (.tuple #[r, .int .i64 ((Plain.allA ls).2 : Nat)]) l) → HeldN w' r (Plain.allA ls).1 → Kx w w' → MI Try.prog S0 V0 (.main post) ⟨none, none, []⟩ (bare f t') [] (.inRegion ops rest :: k) cs w') :
    MI Try.prog S0 V0 (.main post) ⟨none, none, []⟩ (bare f t) [] (.inRegion ops (i :: rest) :: k) cs w := by
  refine MI.enter (o := o) (h := 10) (xs := #[.tmp s]) (fn := Try.f10) (c := body10) ho (by simp [Region.wanted, hg]) (by simp [okX]) Try.func10 rfl hen ?_
  have exs : (#[Operand.tmp s] : Array Operand).map (Act.eval ⟨t, []⟩) = #[v] := by
    have := hS.ev hm
    simp [this]
  rw [exs, Try.ntmps10]
  obtain ⟨z0, g0⟩ := frame1 v 25 (by omega)
  refine all_mi hP _ w v ls hls z0 g0 hL hbig fun t3 w3 r z3 e2 e3 hE k3 => ?_
  refine MI.ret (fn := Try.f10) (v := .tuple #[r, .int .i64 ((Plain.allA ls).2 : Nat)]) (o := o) Try.func10 (fun w0 => ?_) ho ?_
  · have g2 : t3.getD 2 undef = r := by rw [Array.getD_eq_getD_getElem?, e2]; rfl
    have g3 : t3.getD 3 undef = .int .i64 ((Plain.allA ls).2 : Nat) := by rw [Array.getD_eq_getD_getElem?, e3]; rfl
    rw [results_tmp2 (fn := Try.f10) (t := 2) (u := 3) rfl, g2, g3]
  rw [hd]
  exact K _ w3 r (hS.put hn _) hE k3

omit [Shift] in
theorem six_lens {ls : List (List Plain.En)} (h : ∀ l ∈ ls, Plain.Six l) (j : Nat) : (ls.getD j []).length ≤ 9223372036854775807 := by
  by_cases hj : j < ls.length
  · have := (h _ (by rw [Plain.getD_lt hj]; exact List.getElem_mem hj : ls.getD j [] ∈ ls)).len
    omega
  · rw [List.getD_eq_getElem?_getD, List.getElem?_eq_none (by omega)]
    exact Nat.zero_le _

/-- The entry of the third call. -/
def e3 : Plain.En := { key := 3, value := 0, time := 0, who := 0, gone := false }
omit [Shift] in
theorem e3_six : Plain.Six [e3] := Plain.six_one (by rfl) (by show (3 : Int) < 6; omega)
omit [Shift] in
theorem run_b41 {e : Operand → Value} {w : World} {o : Oper} (ho : o.op = .build 41 #[(0, .const (.int .i64 3))]) (hc : e (.const (.int .i64 3)) = .int .i64 3) : (execOp e o).run Try.prog w = .ok (.value (.agg #[.int .i64 3, .int .i64 0, .int .i64 0, .int .i64 0, .bool false])) w := by
  unfold execOp
  rw [ho]
  simp [go_sem, hc]
omit [Shift] in
theorem run_bs5 {e : Operand → Value} {w : World} {o : Oper} {s : Nat} (ho : o.op = .buildSlice 30 1 #[(0, .tmp s)]) (h : e (.tmp s) = .agg #[.int .i64 3, .int .i64 0, .int .i64 0, .int .i64 0, .bool false]) :
    (execOp e o).run Try.prog w = .ok (.value (.slice (some ⟨w.heap.size, 0, none⟩) 1 1)) (w.alloc (.cells #[.int .i64 3, .int .i64 0, .int .i64 0, .int .i64 0, .bool false] 41 (0, 0))) := by
  unfold execOp
  rw [ho]
  simp [go_sem, h]
omit [Shift] in
theorem run_bs2 {e : Operand → Value} {w : World} {o : Oper} {s : Nat} {p : Option Addr} {n c : Nat} (ho : o.op = .buildSlice 29 2 #[(0, .const (.slice none 0 0)), (1, .tmp s)]) (hc : e (.const (.slice none 0 0)) = .slice none 0 0) (h : e (.tmp s) = .slice p n c) :
    (execOp e o).run Try.prog w = .ok (.value (.slice (some ⟨w.heap.size, 0, none⟩) 2 2)) (w.alloc (.cells #[.slice none 0 0, .slice p n c] 30 (0, 0))) := by
  unfold execOp
  rw [ho]
  simp [go_sem, h, hc]
end Go.Proofs.Ytcobehkadhcjiaa
