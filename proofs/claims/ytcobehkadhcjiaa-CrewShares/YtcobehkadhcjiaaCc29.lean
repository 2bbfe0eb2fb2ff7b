/-
  Goroutines among others: part 29 of what the law's own text rests on.
-/
import Derived.Test.YtcobehkadhcjiaaCc24
import Derived.Test.YtcobehkadhcjiaaCc28
/-
  crew.Splits: behind its loop: Wait, the codes, what is returned.
-/
namespace Go.Proofs.Ytcobehkadhcjiaa
open Go Go.Conc Go.ConcN Go.Conc.Lib Go.RowKit Go.Shelf
open Go.ConcR (Payload wgBlock)

noncomputable def c12 : Code := seqL tail12
noncomputable def t13 : Code := seqL (seqR tail12)
noncomputable def c13 : Code := seqL t13
noncomputable def c14 : Code := seqL (seqR t13)
noncomputable def c15 : Code := match seqR (seqR t13) with | .cond _ (.seq a _) _ => a | c => c
noncomputable def c16 : Code := seqL (seqR (seqR tail12))
noncomputable def ops12 : Array Oper := opsC c12
noncomputable def ops13 : Array Oper := opsC c13
noncomputable def ops14 : Array Oper := opsC c14
noncomputable def ops15 : Array Oper := opsC c15
noncomputable def ops16 : Array Oper := opsC c16
theorem tail12_is : tail12 = .seq c12 (.seq (.seq c13 (.seq c14 (.cond (.tmp 42) (.seq c15 .ret) .skip))) (.seq c16 .ret)) := rfl
theorem c12_is : c12 = .region 12 ops12 false := rfl
theorem c13_is : c13 = .region 13 ops13 false := rfl
theorem c14_is : c14 = .region 14 ops14 false := rfl
theorem c15_is : c15 = .region 15 ops15 false := rfl
theorem c16_is : c16 = .region 16 ops16 false := rfl
theorem ops12_size : ops12.size = 1 := by kernel_rfl
theorem ops13_size : ops13.size = 3 := by kernel_rfl
theorem ops14_size : ops14.size = 2 := by kernel_rfl
theorem ops15_size : ops15.size = 3 := by kernel_rfl
theorem ops16_size : ops16.size = 3 := by kernel_rfl
theorem ok13 : ops13.all (okO Try.prog S1 V1) = true := by kernel_rfl
theorem eg24 : ∀ args w, (callFunc 24 args).run Try.prog w = .ok (.enter 24 args) w := enters_of Try.func24 (by kernel_rfl) rfl
theorem wait12 (e : Act) (w : World) (es : Array Event) : (execOp e.eval (ops12[0]'(by rw [ops12_size]; decide))).run Try.prog w = .ok (.enter wgL.wait #[e.eval (.tmp 8)]) w ∧ (execOp e.eval (ops12[0]'(by rw [ops12_size]; decide))).events Try.prog w es = es := by
  have ho : (ops12[0]'(by rw [ops12_size]; decide)).op = Op.call { callee := .value (.func 23), args := #[.tmp 8], argTypes := #[57] } := rfl
  have e0 : e.eval (.func 23) = .func (.func 23) #[] #[] := rfl
  have nm : (Try.f23.name == "runtime.NumGoroutine") = false := by kernel_rfl
  have n23 : ¬ Try.f23.name = "runtime.NumGoroutine" := by simpa using nm
  have hb : Try.f23.body.isSome = true := by kernel_rfl
  obtain ⟨b, b23⟩ := Option.isSome_iff_exists.1 hb
  constructor
  · unfold execOp
    rw [ho]
    simp [resolve, Deferred.ofValue, invoke, e0, callFunc, Try.func23, n23, b23]
  · unfold execOp
    rw [ho]
    simp [resolve, Deferred.ofValue, invoke, e0, callFunc, Try.func23, n23, b23]
theorem run_neq24 {e : Operand → Value} {w : World} {o : Oper} {x y : Operand} (ho : o.op = .binOp .neq 24 x y 24) (i j : Int) (h1 : e x = .int .i64 i) (h2 : e y = .int .i64 j) : (execOp e o).run Try.prog w = .ok (.value (.bool (i != j))) w := by
  unfold execOp
  rw [ho]
  simp only [h1, h2]
  simp [go_sem]

/-- Behind Wait. -/
structure StT (D : LDt) (t : Array Value) (w : World) : Prop where
  sl : Sl t 45 (D.sl D.n)
  kc : Kc D.W0 w
  c6 : w.cell? ⟨D.b6, 0, none⟩ = some (.slice (some ⟨D.r1, 0, none⟩) D.n D.n)
  c7 : w.cell? ⟨D.b7, 0, none⟩ = some (.slice (some ⟨D.r2, 0, none⟩) D.n D.n)
  tab : TabW w (some ⟨D.r1, 0, none⟩) (spR D.ts D.ws)
  cod : ∀ j, j < D.n → w.cell? ⟨D.r2, 0 + j, none⟩ = some (.int .i64 ((spE D.ts D.ws).getD j 0))

theorem cells_get {W : World} {b : Nat} {l : List Value} {e : TypeId} (h : W.heap[b]? = some (.cells l.toArray e (0, 0))) (i : Nat) : W.cell? ⟨b, i, none⟩ = l[i]? := by
  unfold World.cell?
  simp only [h]
  simp

variable [Shift] [Payload]
theorem told_st {D : LDt} (hD : LOk D) {w w1 : World} {vs : List (Value × Value)} (hkc : Kc D.W0 w) (c6 : w.cell? ⟨D.b6, 0, none⟩ = some (.slice (some ⟨D.r1, 0, none⟩) D.n D.n)) (c7 : w.cell? ⟨D.b7, 0, none⟩ = some (.slice (some ⟨D.r2, 0, none⟩) D.n D.n))
    (hT : Told D.rw (spc D.ts D.ws D.n) w w1 vs) : Kc D.W0 w1 ∧ w1.cell? ⟨D.b6, 0, none⟩ = some (.slice (some ⟨D.r1, 0, none⟩) D.n D.n) ∧ w1.cell? ⟨D.b7, 0, none⟩ = some (.slice (some ⟨D.r2, 0, none⟩) D.n D.n) ∧ TabW w1 (some ⟨D.r1, 0, none⟩) (spR D.ts D.ws) ∧
      ∀ j, j < D.n → w1.cell? ⟨D.r2, 0 + j, none⟩ = some (.int .i64 ((spE D.ts D.ws).getD j 0)) := by
  have old : ∀ (a : Addr) (v : Value), w.cell? a = some v → a.block ≠ D.r1 → a.block ≠ D.r2 → w1.cell? a = some v := fun a v hv h1 h2 => by
    rw [World.cell?_of_block (hT.old _ (World.block_lt_of_cell? (h := hv)) h1 h2)]; exact hv
  have hts := hD.ht
  have one : ∀ j, j < D.n → ∃ r, w1.cell? ⟨D.r1, j, none⟩ = some r ∧ w1.cell? ⟨D.r2, j, none⟩ = some (.int .i64 (Bo.Plain.splitE (D.ts.getD j 0) (D.ws.getD j []) : Nat)) ∧ Seg w1 r (Bo.Plain.splitV (D.ts.getD j 0) (D.ws.getD j [])) ∧ Lies w1.heap.size r := fun j hj => by
    have hl : vs.length = D.n := by rw [hT.len, spc_len]
    obtain ⟨v, hv⟩ : ∃ v, vs[j]? = some v := ⟨vs[j], by simp [hl, hj]⟩
    have hsp : (spc D.ts D.ws D.n)[j]? = some (specS (D.ts.getD j 0) (D.ws.getD j [])) := by simp [spc, hj]
    obtain ⟨u, ⟨r, e, hs, hsl⟩, _, hk⟩ := hT.told j _ v hsp hv
    injection e with e
    have e1 : v.1 = r := Option.some.inj (congrArg (fun a : Array Value => a[0]?) e)
    have e2 : v.2 = .int .i64 (Bo.Plain.splitE (D.ts.getD j 0) (D.ws.getD j []) : Nat) := Option.some.inj (congrArg (fun a : Array Value => a[1]?) e)
    have row1 := cells_get hT.row1 j
    have row2 := cells_get hT.row2 j
    rw [List.getElem?_map, hv] at row1 row2
    have hcell : ∀ (b o : Nat) (x : Value), u.cell? ⟨b, o, none⟩ = some x → w1.cell? ⟨b, o, none⟩ = some x := fun b o x hx => by
      obtain ⟨c, e, f, q1, q2⟩ := cell_of hx
      exact cell_is (hk b c e f q1) q2
    refine ⟨r, ?_, ?_, ?_, ?_⟩
    · rw [← e1]; exact row1
    · rw [← e2]; exact row2
    · rcases hs with ⟨e, p, c, hv⟩ | ⟨b, off, c, hv, hc⟩
      · exact .inl ⟨e, p, c, hv⟩
      · exact .inr ⟨b, off, c, hv, fun i hi => hcell _ _ _ (hc i hi)⟩
    · rcases hs with ⟨e, p, c, rfl⟩ | ⟨b, off, c, rfl, hc⟩
      · exact lies_nil _ _ _
      · by_cases h0 : 0 < (Bo.Plain.splitV (D.ts.getD j 0) (D.ws.getD j [])).length
        · exact lies_at (World.block_lt_of_cell? (h := hcell _ _ _ (hc 0 h0)))
        · have : (Bo.Plain.splitV (D.ts.getD j 0) (D.ws.getD j [])).length = 0 := by omega
          rw [this]
          exact lies_nil _ _ _
  refine ⟨⟨Nat.le_trans hkc.size hT.size, fun a v hv => ?_⟩, old _ _ c6 hD.n61 hD.n62, old _ _ c7 hD.n71 hD.n72, ⟨fun j hj => ?_⟩, fun j hj => ?_⟩
  · have hlt := World.block_lt_of_cell? (h := hv)
    have := hD.l1
    have := hD.l2
    exact old a v (hkc.cell a v hv) (by omega) (by omega)
  · rw [spR_len, hts] at hj
    obtain ⟨r, k1, _, k3, k4⟩ := one j hj
    exact ⟨D.r1, 0, r, rfl, by rw [Nat.zero_add]; exact k1, by rw [spR_at (by omega)]; exact k3, k4⟩
  · obtain ⟨r, _, k2, _, _⟩ := one j hj
    rw [Nat.zero_add, spE_at (by omega)]
    exact k2

theorem codes_st {D : LDt} (hD : LOk D) {t : Array Value} {w : World} (h : StL D t w D.n) (h0 : D.n = 0) : StT D t w := by
  have hts := hD.ht
  exact ⟨h.sl, h.kc, h.c6, h.c7, ⟨fun j hj => by rw [spR_len] at hj; omega⟩, fun j hj => by omega⟩

/-- From the loop to the end. -/
theorem tail12_mj (hP : OkP Try.prog S1 V1) {D : LDt} (hD : LOk D) {post : Value → World → Prop} {cs : List Frame} (t : Array Value) (w : World) (h : StL D t w D.n)
    (K : ∀ (t' : Array Value) (w' : World) (r : Value), t'.size = 45 → t'[4]? = some r → t'[5]? = some (.int .i64 (firstE (spE D.ts D.ws))) → (firstE (spE D.ts D.ws) ≠ 0 → r = .slice none 0 0) → (firstE (spE D.ts D.ws) = 0 → r = .slice (some ⟨D.r1, 0, none⟩) D.n D.n) →
      TabW w' (some ⟨D.r1, 0, none⟩) (spR D.ts D.ws) → Kc D.W0 w' → MJ Try.prog wgL S1 V1 (.main post ⟨none, false, none, []⟩) (bareR 7 t') [] [] cs w') :
    MJ Try.prog wgL S1 V1 (.main post (D.st D.n)) (bare 7 t) [] [.code tail12] cs w := by
  rw [tail12_is]
  refine MJ.seq ?_
  rw [c12_is]
  refine MJ.reg (r := [0]) (by rw [ops12_size]; rfl) ?_
  refine MJ.wait (o := ops12[0]'(by rw [ops12_size]; decide)) (x := .tmp 8) (wg := D.wg) rfl rfl rfl (h.sl.ev (by simp [LDt.sl])) (fun rw' hrw => ?_) (fun e w' es => wait12 e w' es) fun w1 hw1 => ?_
  · rw [spc_len]
    by_cases h0 : D.n = 0
    · simp [h0] at hrw
    · rw [if_neg h0] at hrw
      cases hrw
      rfl
  refine MJ.regE ?_
  have hS1 : Sl (putT t (ops12[0]'(by rw [ops12_size]; decide)).dst (.tuple #[])) 45 _ := h.sl.put (d := 38) (by omega) (.tuple #[])
  generalize putT t (ops12[0]'(by rw [ops12_size]; decide)).dst (.tuple #[]) = t1 at hS1
  have hT : StT D t1 w1 := by
    have hsl : Sl t1 45 (D.sl D.n) := hS1.sub (by simp [setS, LDt.sl])
    rcases hw1 with ⟨e1, _, rfl⟩ | ⟨rw', vs, e1, hT⟩
    · have h0 : D.n = 0 := Classical.byContradiction fun h0 => by rw [if_neg h0] at e1; cases e1
      exact codes_st hD ⟨hsl, h.kc, h.c3, h.c6, h.c7, h.rows⟩ h0
    · have h0 : ¬ D.n = 0 := fun h0 => by rw [if_pos h0] at e1; cases e1
      rw [if_neg h0] at e1
      cases e1
      obtain ⟨q1, q2, q3, q4, q5⟩ := told_st hD h.kc h.c6 h.c7 hT
      exact ⟨hsl, q1, q2, q3, q4, q5⟩
  clear hw1 hS1
  refine MJ.seq (MJ.seq ?_)
  rw [c13_is]
  refine MJ.reg (r := [0, 1, 2]) (by rw [ops13_size]; rfl) ?_
  refine MJ.vl hT.sl (o := ops13[0]'(by rw [ops13_size]; decide)) 39 (.slice (some ⟨D.r2, 0, none⟩) D.n D.n) rfl rfl rfl (by omega) (by kernel_rfl) (fun T => run_ld47 rfl _ _ (hT.sl.ev (by simp [LDt.sl])) hT.c7) fun t2 U2 hS2 => ?_
  have e39 : Act.eval ⟨t2, []⟩ (.tmp 39) = .slice (some ⟨D.r2, 0, none⟩) D.n D.n := hS2.ev (by simp [setS])
  refine MJ.call (h := 24) (args := #[.slice (some ⟨D.r2, 0, none⟩) D.n D.n]) (o := ops13[1]'(by rw [ops13_size]; decide)) hP ok13 rfl rfl (fun w' => ?_) fun T => ?_
  · rw [run_call (g := 24) (xs := #[.tmp 39]) (tys := #[47]) rfl rfl eg24]
    simp only [List.map_toArray, List.map_cons, List.map_nil, e39]
  have hcod : ∀ j, j < D.n → (retape (onT w1 U2) T).cell? ⟨D.r2, 0 + j, none⟩ = some (.int .i64 ((spE D.ts D.ws).getD j 0)) := hT.cod
  refine (refusal_c D.r2 0 D.n D.n (spE D.ts D.ws) (retape (onT w1 U2) T) (by rw [spE_len]; exact hD.ht) (by have := hD.hn; omega) hcod (fun h0 => World.block_lt_of_cell? (h := hcod 0 h0))).mono ?_
  rintro e w2 ⟨rfl, hb⟩
  refine ⟨_, rfl, fun U3 => ?_⟩
  have kc2 : Kc w1 (onT w2 U3) := ((Kc.heap rfl : Kc w1 (retape (onT w1 U2) T)).trans (Kc.below hb)).trans (Kc.heap rfl)
  obtain ⟨w3, hw3⟩ : ∃ w3, w3 = onT w2 U3 := ⟨_, rfl⟩
  rw [← hw3] at kc2 ⊢
  clear hw3 hb
  have hS3 : Sl (putT t2 (ops13[1]'(by rw [ops13_size]; decide)).dst (.int .i64 (firstE (spE D.ts D.ws)))) 45 _ := hS2.put (d := 40) (by omega) (.int .i64 (firstE (spE D.ts D.ws)))
  generalize putT t2 (ops13[1]'(by rw [ops13_size]; decide)).dst (.int .i64 (firstE (spE D.ts D.ws))) = t3 at hS3
  refine MJ.mv hS3 (o := ops13[2]'(by rw [ops13_size]; decide)) 40 11 (.int .i64 (firstE (spE D.ts D.ws))) rfl (.inr rfl) rfl rfl (by omega) (by simp [setS]) fun t4 U4 hS4 => MJ.regE ?_
  refine MJ.seq ?_
  rw [c14_is]
  refine MJ.reg (r := [0, 1]) (by rw [ops14_size]; rfl) ?_
  refine MJ.mv hS4 (o := ops14[0]'(by rw [ops14_size]; decide)) 11 41 (.int .i64 (firstE (spE D.ts D.ws))) rfl (.inl rfl) rfl rfl (by omega) (by simp [setS]) fun t5 U5 hS5 => ?_
  refine MJ.vl hS5 (o := ops14[1]'(by rw [ops14_size]; decide)) 42 (.bool (firstE (spE D.ts D.ws) != 0)) rfl rfl rfl (by omega) (by kernel_rfl) (fun T => run_neq24 (x := .tmp 41) (y := .const (.int .i64 0)) rfl _ 0 (hS5.ev (by simp [setS])) rfl) fun t6 U6 hS6 => MJ.regE ?_
  obtain ⟨w4, hw4⟩ : ∃ w4, w4 = onT (onT (onT w3 U4) U5) U6 := ⟨_, rfl⟩
  have kc4 : Kc w1 w4 := kc2.trans (Kc.heap (by rw [hw4]; rfl))
  rw [← hw4]
  clear hw4
  refine MJ.cond (q := firstE (spE D.ts D.ws) != 0) rfl (hS6.ev (by simp [setS])) ?_
  cases hq : firstE (spE D.ts D.ws) != 0 with
  | true =>
    have hq' : firstE (spE D.ts D.ws) ≠ 0 := by simpa using hq
    refine MJ.seq ?_
    rw [c15_is]
    refine MJ.reg (r := [0, 1, 2]) (by rw [ops15_size]; rfl) ?_
    refine MJ.mv hS6 (o := ops15[0]'(by rw [ops15_size]; decide)) 11 43 (.int .i64 (firstE (spE D.ts D.ws))) rfl (.inl rfl) rfl rfl (by omega) (by simp [setS]) fun t7 U7 hS7 => ?_
    refine MJ.cst hS7 (o := ops15[1]'(by rw [ops15_size]; decide)) 4 (.slice none 0 0) rfl (.inr rfl) rfl rfl (by omega) rfl fun t8 U8 hS8 => ?_
    refine MJ.mv hS8 (o := ops15[2]'(by rw [ops15_size]; decide)) 43 5 (.int .i64 (firstE (spE D.ts D.ws))) rfl (.inr rfl) rfl rfl (by omega) (by simp [setS]) fun t9 U9 hS9 => MJ.regE ?_
    refine MJ.toret (.inr ⟨_, rfl⟩) ?_
    have kk : Kc w1 (onT (onT (onT w4 U7) U8) U9) := kc4.trans (Kc.heap rfl)
    exact K t9 _ (.slice none 0 0) hS9.size (hS9.get (by simp [setS])) (hS9.get (by simp [setS])) (fun _ => rfl) (fun e => absurd e hq') (hT.tab.kc kk) (hT.kc.trans kk)
  | false =>
    have hq' : firstE (spE D.ts D.ws) = 0 := by simpa using hq
    refine MJ.ctl (k1 := .code (.seq c16 .ret) :: []) (fun _ _ _ _ _ _ => stepG_skip) ?_
    refine MJ.seq ?_
    rw [c16_is]
    refine MJ.reg (r := [0, 1, 2]) (by rw [ops16_size]; rfl) ?_
    refine MJ.vl hS6 (o := ops16[0]'(by rw [ops16_size]; decide)) 44 (.slice (some ⟨D.r1, 0, none⟩) D.n D.n) rfl rfl rfl (by omega) (by kernel_rfl) (fun T => run_ld23 rfl _ _ (hS6.ev (by simp [setS, LDt.sl])) (kc4.cell _ _ hT.c6)) fun t7 U7 hS7 => ?_
    refine MJ.mv hS7 (o := ops16[1]'(by rw [ops16_size]; decide)) 44 4 (.slice (some ⟨D.r1, 0, none⟩) D.n D.n) rfl (.inr rfl) rfl rfl (by omega) (by simp [setS]) fun t8 U8 hS8 => ?_
    refine MJ.cst hS8 (o := ops16[2]'(by rw [ops16_size]; decide)) 5 (.int .i64 0) rfl (.inr rfl) rfl rfl (by omega) rfl fun t9 U9 hS9 => MJ.regE ?_
    refine MJ.toret (.inr ⟨_, rfl⟩) ?_
    have kk : Kc w1 (onT (onT (onT w4 U7) U8) U9) := kc4.trans (Kc.heap rfl)
    exact K t9 _ (.slice (some ⟨D.r1, 0, none⟩) D.n D.n) hS9.size (hS9.get (by simp [setS])) (by rw [hq']; exact hS9.get (by simp [setS])) (fun e => absurd hq' e) (fun _ => rfl) (hT.tab.kc kk) (hT.kc.trans kk)
end Go.Proofs.Ytcobehkadhcjiaa

/-
  crew.Splits, whole.
-/
namespace Go.Proofs.Ytcobehkadhcjiaa
open Go Go.Conc Go.ConcN Go.Conc.Lib Go.RowKit Go.Shelf
open Go.ConcR (Payload wgBlock)

noncomputable def c2 : Code := match cC with | .cond _ (.seq a _) _ => a | c => c
noncomputable def ops2 : Array Oper := opsC c2
theorem cC_is : cC = .cond (.tmp 21) (.seq c2 .ret) .skip := rfl
theorem c2_is : c2 = .region 2 ops2 false := rfl
theorem ops2_size : ops2.size = 2 := by kernel_rfl

/-- What is returned. -/
def OutR (ts : List Int) (ws : List (List Int)) (w : World) (r : Value) : Prop := (splE ts ws ≠ 0 → r = .slice none 0 0) ∧ (splE ts ws = 0 → ∃ g c, r = .slice (some ⟨g, 0, none⟩) ts.length c ∧ TabW w (some ⟨g, 0, none⟩) (spR ts ws))

variable [Shift] [Payload]
theorem splits_mj (hP : OkP Try.prog S1 V1) {post : Value → World → Prop} {cs : List Frame} (pa : Option Addr) (n ca : Nat) (pb : Option Addr) (m cb : Nat) (ts : List Int) (ws : List (List Int)) (w : World) (hts : ts.length = n) (hws : ws.length = m) (hseg : Seg w (.slice pa n ca) ts) (htab : TabW w pb ws)
    (hbig : ∀ j, (ws.getD j []).length ≤ 9223372036854775807) (hlow : Shift.n ≤ w.heap.size) (hpay : Payload.ety = 24)
    (K : ∀ (t' : Array Value) (w' : World) (r : Value), t'.size = 45 → t'[4]? = some r → t'[5]? = some (.int .i64 (splE ts ws)) → OutR ts ws w' r → Kc w w' → MJ Try.prog wgL S1 V1 (.main post ⟨none, false, none, []⟩) (bareR 7 t') [] [] cs w') :
    MJ Try.prog wgL S1 V1 (.main post ⟨none, false, none, []⟩) (bare 7 #[.slice pa n ca, .slice pb m cb, undef, undef, undef, undef, undef, undef, undef, undef, undef, undef, undef, undef, undef, undef, undef, undef, undef, undef, undef, undef, undef, undef, undef, undef, undef, undef, undef, undef, undef, undef, undef, undef, undef, undef, undef, undef, undef, undef, undef, undef, undef, undef, undef]) [] [.code body7] cs w := by
  rw [body7_is]
  refine MJ.seq ?_
  refine boxA_mj hP (.slice pa n ca) pb m cb w fun t1 w1 hS1 et1 k1 s1 b1 => ?_
  rw [et1]
  clear hS1 et1
  refine MJ.seq (MJ.seq ?_)
  refine testB_mj hP pa n ca pb m cb w.heap.size w1 b1 fun t2 U2 hS2 => ?_
  rw [cC_is]
  refine MJ.cond (q := decide (n ≠ m ∨ 200 < n)) rfl (hS2.ev (by simp)) ?_
  have k2 : Kc w (onT w1 U2) := k1.trans (Kc.heap rfl)
  by_cases hq : n ≠ m ∨ 200 < n
  · rw [decide_eq_true hq]
    have hE : splE ts ws = 1 := by
      unfold splE
      rw [hts, hws, if_pos hq]
    refine MJ.seq ?_
    rw [c2_is]
    refine MJ.reg (r := [0, 1]) (by rw [ops2_size]; rfl) ?_
    refine MJ.cst hS2 (o := ops2[0]'(by rw [ops2_size]; decide)) 4 (.slice none 0 0) rfl (.inr rfl) rfl rfl (by omega) rfl fun t3 U3 hS3 => ?_
    refine MJ.cst hS3 (o := ops2[1]'(by rw [ops2_size]; decide)) 5 (.int .i64 1) rfl (.inr rfl) rfl rfl (by omega) rfl fun t4 U4 hS4 => MJ.regE ?_
    refine MJ.toret (.inr ⟨_, rfl⟩) ?_
    exact K t4 _ (.slice none 0 0) hS4.size (hS4.get (by simp [setS])) (by rw [hE]; exact hS4.get (by simp [setS])) ⟨fun _ => rfl, fun e => by rw [hE] at e; cases e⟩ (k2.trans (Kc.heap rfl))
  · rw [decide_eq_false hq]
    have hnm : n = m := Classical.byContradiction fun h => hq (.inl h)
    have h200 : n ≤ 200 := by omega
    subst hnm
    have hE : splE ts ws = firstE (spE ts ws) := by
      unfold splE
      rw [hts, hws, if_neg hq]
    refine MJ.ctl (k1 := .code tail7 :: []) (fun _ _ _ _ _ _ => stepG_skip) ?_
    obtain ⟨w2, hw2⟩ : ∃ w2, w2 = onT w1 U2 := ⟨_, rfl⟩
    have s2 : w2.heap.size = w.heap.size + 1 := by rw [hw2]; exact s1
    have b2 : w2.cell? ⟨w.heap.size, 0, none⟩ = some (.slice pb n cb) := by rw [hw2]; exact b1
    rw [← hw2] at k2 ⊢
    clear hw2 b1 s1 k1
    rw [tail7_is]
    refine MJ.seq ?_
    refine mk3_mj hS2 pa n ca (by simp) h200 fun t3 w3 hS3 k3 s3 r3 b3 o3 => ?_
    rw [s2] at hS3 s3 r3 b3 o3
    refine MJ.seq ?_
    refine mk4_mj hS3 pa n ca (by simp [setS]) h200 fun t4 w4 hS4 k4 s4 r4 b4 o4 => ?_
    rw [s3] at hS4 s4 r4 b4 o4
    refine MJ.seq ?_
    rw [c5_is]
    refine MJ.reg (r := [0]) (by rw [ops5_size]; rfl) ?_
    refine MJ.wgnew (o := ops5[0]'(by rw [ops5_size]; decide)) rfl rfl (fun e w' es => new5 e w' es) ?_
    have hS5 : Sl (putT t4 (ops5[0]'(by rw [ops5_size]; decide)).dst (.pointer (some ⟨w4.heap.size, 0, none⟩))) 45 _ := hS4.put (d := 8) (by omega) (.pointer (some ⟨w4.heap.size, 0, none⟩))
    generalize putT t4 (ops5[0]'(by rw [ops5_size]; decide)).dst (.pointer (some ⟨w4.heap.size, 0, none⟩)) = t5 at hS5
    refine MJ.regE (MJ.seq (MJ.seq ?_))
    obtain ⟨w5, hw5⟩ : ∃ w5, w5 = w4.alloc (.coro none) := ⟨_, rfl⟩
    have k5 : Kc w4 w5 := by rw [hw5]; exact Kc.alloc w4 _
    have o5 : ∀ a, a < w4.heap.size → w5.heap[a]? = w4.heap[a]? := fun a ha => by rw [hw5]; exact Below.heap_alloc _ _ _ ha
    rw [← hw5]
    clear hw5
    rw [c6_is]
    refine MJ.reg (r := [0, 1, 2]) (by rw [ops6_size]; rfl) ?_
    refine MJ.mv hS5 (o := ops6[0]'(by rw [ops6_size]; decide)) 0 28 (.slice pa n ca) rfl (.inl rfl) rfl rfl (by omega) (by simp [setS]) fun t6 U6 hS6 => ?_
    refine MJ.vl hS6 (o := ops6[1]'(by rw [ops6_size]; decide)) 29 (.int .i64 n) rfl rfl rfl (by omega) (by kernel_rfl) (fun T => run_len (x := .tmp 28) (ty := 22) (el := 3) rfl Try.underlying22 pa n ca (hS6.ev (by simp [setS]))) fun t7 U7 hS7 => ?_
    refine MJ.cst hS7 (o := ops6[2]'(by rw [ops6_size]; decide)) 30 (.int .i64 0) rfl (.inl rfl) rfl rfl (by omega) rfl fun t8 U8 hS8 => MJ.regE ?_
    refine MJ.ctl (k1 := .code (.loop rnd) :: .inBlock 0 :: .code tail12 :: []) (fun _ _ _ _ _ _ => stepG_block) ?_
    refine MJ.ctl (k1 := .code rnd :: .inLoop rnd :: .inBlock 0 :: .code tail12 :: []) (fun _ _ _ _ _ _ => stepG_loop) ?_
    obtain ⟨w6, hw6⟩ : ∃ w6, w6 = onT (onT (onT w5 U6) U7) U8 := ⟨_, rfl⟩
    have h6 : w6.heap = w5.heap := by rw [hw6]; rfl
    have k6 : Kc w5 w6 := Kc.heap h6
    rw [← hw6]
    clear hw6
    let D : LDt := ⟨w, pa, n, ca, pb, cb, w.heap.size, w.heap.size + 1 + 1, w.heap.size + 1 + 2 + 1, w4.heap.size, w.heap.size + 1, w.heap.size + 1 + 2, ts, ws⟩
    have hD : LOk D := ⟨hts, hws, h200, hseg, htab, hbig, by show w.heap.size ≤ w.heap.size + 1; omega, by show w.heap.size ≤ w.heap.size + 1 + 2; omega, by show w.heap.size + 1 ≠ w.heap.size + 1 + 2; omega, by show w.heap.size ≠ w.heap.size + 1; omega, by show w.heap.size ≠ w.heap.size + 1 + 2; omega,
      by show w.heap.size + 1 + 1 ≠ w.heap.size + 1; omega, by show w.heap.size + 1 + 1 ≠ w.heap.size + 1 + 2; omega, by show w.heap.size + 1 + 2 + 1 ≠ w.heap.size + 1; omega, by show w.heap.size + 1 + 2 + 1 ≠ w.heap.size + 1 + 2; omega, hlow, hpay⟩
    have k46 : Kc w4 w6 := k5.trans k6
    have k36 : Kc w3 w6 := k4.trans k46
    have hL : StL D t8 w6 0 := by
      refine ⟨hS8.sub (by simp [setS, LDt.sl, D]), (k2.trans k3).trans k36, (k3.trans k36).cell _ _ b2, k36.cell _ _ b3, k46.cell _ _ b4, fun _ => ⟨?_, ?_⟩⟩
      · show w6.heap[w.heap.size + 1]? = _
        rw [h6, o5 _ (by omega), o4 _ (by omega)]
        exact r3
      · show w6.heap[w.heap.size + 1 + 2]? = _
        rw [h6, o5 _ (by omega)]
        exact r4
    have hst : (⟨some w4.heap.size, false, none, []⟩ : Sj) = D.st 0 := rfl
    rw [hst]
    refine loop_mj hP hD n t8 w6 0 (by show 0 + n = n; omega) hL fun t9 w9 h9 => ?_
    refine tail12_mj hP hD t9 w9 h9 fun t' w' r z4 e4 e5 q1 q2 tb kk => K t' w' r z4 e4 (by rw [hE]; exact e5) ⟨fun h => q1 (by rw [← hE]; exact h), fun h => ⟨w.heap.size + 1, n, ?_, tb⟩⟩ kk
    rw [hts]
    exact q2 (by show firstE (spE ts ws) = 0; rw [← hE]; exact h)
end Go.Proofs.Ytcobehkadhcjiaa

/-
  A contract of sameInts (law): are the numbers of two slices the same?
-/
namespace Go.Proofs.Ytcobehkadhcjiaa.Bo
open Go.RowKit
namespace law

theorem seg_form {w : World} {u : Value} {bl : List Int} (h : Seg w u bl) : ∃ p c, u = .slice p bl.length c := by
  rcases h with ⟨rfl, p, c, rfl⟩ | ⟨b, o, c, rfl, _⟩
  · exact ⟨p, c, rfl⟩
  · exact ⟨_, c, rfl⟩

theorem take_next {a b : List Int} {k : Nat} (ha : k < a.length) (hb : k < b.length) (h : a.take k = b.take k) (e : a.getD k 0 = b.getD k 0) : a.take (k + 1) = b.take (k + 1) := by
  rw [List.take_succ_eq_append_getElem ha, List.take_succ_eq_append_getElem hb, h]
  simp only [List.getD_eq_getElem?_getD, List.getElem?_eq_getElem ha, List.getElem?_eq_getElem hb, Option.getD_some] at e
  rw [e]

set_option maxHeartbeats 400000 in
theorem same_len (p1 p2 : Option Addr) (n m c1 c2 : Nat) (h : ¬ n = m) (w : World) :
    Calls Try.prog 26 #[.slice p1 n c1, .slice p2 m c2] w fun e w' => e = .returned (.bool false) ∧ ∃ q, w' = w.drewN q := by
  have h' : ¬ (n : Int) = (m : Int) := by omega
  go_enter Try.func26, Try.ntmps26
  go_wp2
  go_ret
  exact ⟨rfl, 0, rfl⟩

set_option maxHeartbeats 400000 in
theorem same_nil (p1 p2 : Option Addr) (c1 c2 : Nat) (w : World) :
    Calls Try.prog 26 #[.slice p1 0 c1, .slice p2 0 c2] w fun e w' => e = .returned (.bool true) ∧ ∃ q, w' = w.drewN q := by
  go_enter Try.func26, Try.ntmps26
  go_wp2
  refine wp_loop_rounds 1 ?_
  rw [rounds_succ]
  go_wp2
  go_ret
  exact ⟨rfl, 0, rfl⟩

set_option maxHeartbeats 800000 in
theorem same_two (b1 o1 c1 b2 o2 c2 n : Nat) (a b : List Int) (ha : a.length = n) (hb : b.length = n) (hl : n ≤ 1000000) (w : World)
    (h1 : ∀ j, j < n → w.cell? ⟨b1, o1 + j, none⟩ = some (.int .i64 (a.getD j 0)))
    (h2 : ∀ j, j < n → w.cell? ⟨b2, o2 + j, none⟩ = some (.int .i64 (b.getD j 0))) :
    Calls Try.prog 26 #[.slice (some ⟨b1, o1, none⟩) n c1, .slice (some ⟨b2, o2, none⟩) n c2] w fun e w' => e = .returned (.bool (decide (a = b))) ∧ ∃ q, w' = w.drewN q := by
  have H1 := hid h1
  have H2 := hid h2
  have HA := hid ha
  have HB := hid hb
  clear h1 h2 ha hb
  go_enter Try.func26, Try.ntmps26
  go_wp2
  go_loopw [5] (fun i wr => ∃ k q : Nat, k ≤ n ∧ i = .int .i64 k ∧ a.take k = b.take k ∧ wr = w.drewN q) (fun i _ => n - (intOf i).toNat)
  case atStart => exact ⟨0, 0, Nat.zero_le _, rfl, rfl, rfl⟩
  case round =>
    obtain ⟨k, q, hk, rfl, ht, hw⟩ := hrel
    have HT := hid ht
    have HW := hid hw
    clear ht hw
    by_cases hlt : k < n
    · have g1 : wr.cell? ⟨b1, o1 + k, none⟩ = some (.int .i64 (a.getD k 0)) := by rw [HW.out]; simpa using H1.out k hlt
      have g2 : wr.cell? ⟨b2, o2 + k, none⟩ = some (.int .i64 (b.getD k 0)) := by rw [HW.out]; simpa using H2.out k hlt
      have hlt' : (k : Int) < (n : Int) := by omega
      obtain ⟨x, hx⟩ : ∃ x, x = a.getD k 0 := ⟨_, rfl⟩
      obtain ⟨y, hy⟩ : ∃ y, y = b.getD k 0 := ⟨_, rfl⟩
      rw [← hx] at g1
      rw [← hy] at g2
      have HX := hid hx
      have HY := hid hy
      clear hx hy
      by_cases c : x = y
      · subst c
        have R := hid (take_next (by rw [HA.out]; exact hlt) (by rw [HB.out]; exact hlt) HT.out (by rw [← HX.out, ← HY.out]))
        go_wp2
        go_quiet (fail)
        go_wp2
        go_roundw
        case rel => exact ⟨k + 1, _, by omega, by go_num, R.out, by rw [HW.out, drewN_add]⟩
        case measure => simp [intOf]; omega
      · go_wp2
        go_quiet (fail)
        go_wp2
        go_ret
        exact ⟨ret_bool (by symm; rw [decide_eq_false_iff_not]; intro e; apply c; rw [HX.out, HY.out, e]), _, by rw [HW.out, drewN_add]⟩
    · have ek : k = n := by omega
      subst ek
      have R := HT.out
      rw [List.take_of_length_le (by rw [HA.out]; exact Nat.le_refl _), List.take_of_length_le (by rw [HB.out]; exact Nat.le_refl _)] at R
      have RR := hid R
      clear R
      go_wp2
      go_ret
      exact ⟨ret_bool (by symm; rw [decide_eq_true_iff]; exact RR.out), _, HW.out⟩

theorem same_any (v1 v2 : Value) (a b : List Int) (hl : a.length ≤ 1000000) (w : World) (h1 : Seg w v1 a) (h2 : Seg w v2 b) :
    Calls Try.prog 26 #[v1, v2] w fun e w' => e = .returned (.bool (decide (a = b))) ∧ ∃ q, w' = w.drewN q := by
  by_cases hn : a.length = b.length
  · rcases h1 with ⟨rfl, p1, c1, rfl⟩ | ⟨b1, o1, c1, rfl, g1⟩
    · have eb : b = [] := List.length_eq_zero_iff.1 hn.symm
      subst eb
      rcases h2 with ⟨_, p2, c2, rfl⟩ | ⟨b2, o2, c2, rfl, _⟩
      · exact same_nil p1 p2 c1 c2 w
      · exact same_nil p1 _ c1 c2 w
    · rcases h2 with ⟨rfl, p2, c2, rfl⟩ | ⟨b2, o2, c2, rfl, g2⟩
      · have ea : a = [] := List.length_eq_zero_iff.1 hn
        subst ea
        exact same_nil _ p2 c1 c2 w
      · rw [← hn] at g2 ⊢
        exact same_two b1 o1 c1 b2 o2 c2 a.length a b rfl hn.symm hl w g1 g2
  · have e : decide (a = b) = false := by rw [decide_eq_false_iff_not]; intro e; exact hn (by rw [e])
    rw [e]
    obtain ⟨p1, c1, rfl⟩ := seg_form h1
    obtain ⟨p2, c2, rfl⟩ := seg_form h2
    exact same_len p1 p2 _ _ c1 c2 hn w
end law
end Go.Proofs.Ytcobehkadhcjiaa.Bo
