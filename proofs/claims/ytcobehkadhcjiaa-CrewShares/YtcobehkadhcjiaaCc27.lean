/-
  Goroutines among others: part 27 of what the law's own text rests on.
-/
import Derived.Test.YtcobehkadhcjiaaCc26
/-
  crew.firstRefusal; what stays where others write but two rows; tables in memory; the plain way of crew.Splits.
-/
namespace Go.Proofs.Ytcobehkadhcjiaa
open Go Go.Conc Go.ConcN Go.Conc.Lib Go.RowKit Go.Shelf

/-- The first that is not 0. -/
def firstE (l : List Int) : Int := (l.find? fun x => x != 0).getD 0
theorem firstE_hit {l : List Int} {k : Nat} (hk : k < l.length) (h : (l.getD k 0 != 0) = true) (ha : ∀ j, j < k → (l.getD j 0 != 0) = false) : firstE l = l.getD k 0 := by
  induction l generalizing k with
  | nil => simp at hk
  | cons x xs ih =>
    cases k with
    | zero =>
      simp only [List.getD_cons_zero] at h ⊢
      simp [firstE, h]
    | succ k =>
      have h0 := ha 0 (by omega)
      simp only [List.getD_cons_zero] at h0
      simp only [List.getD_cons_succ] at h ⊢
      have := ih (k := k) (by simpa using hk) h fun j hj => by have := ha (j + 1) (by omega); simpa using this
      rw [← this]
      simp only [firstE, List.find?_cons, h0]
theorem firstE_miss {l : List Int} (ha : ∀ j, j < l.length → (l.getD j 0 != 0) = false) : firstE l = 0 := by
  induction l with
  | nil => rfl
  | cons x xs ih =>
    have h0 := ha 0 (by simp)
    simp only [List.getD_cons_zero] at h0
    have := ih fun j hj => by have := ha (j + 1) (by simp; omega); simpa using this
    rw [← this]
    simp only [firstE, List.find?_cons, h0]

set_option maxHeartbeats 2000000 in
theorem refusal_c (b off n c : Nat) (l : List Int) (w : World) (hn : l.length = n) (hbig : n ≤ 1000) (hc : ∀ j, j < n → w.cell? ⟨b, off + j, none⟩ = some (.int .i64 (l.getD j 0))) (hb : 0 < n → b < w.heap.size) :
    Calls Try.prog 24 #[.slice (some ⟨b, off, none⟩) n c] w fun e w' => e = .returned (.int .i64 (firstE l)) ∧ Below w.heap.size w w' := by
  have HC := hid hc
  clear hc
  go_enter Try.func24, Try.ntmps24
  go_wp2
  go_loopg [4, 7] n (fun gg _ s7 wr => ∃ kk : Nat, kk ≤ n ∧ n - kk ≤ gg ∧ s7 = .int .i64 kk ∧ Aside (Below w.heap.size w wr) ∧ Aside (∀ j, j < kk → (l.getD j 0 != 0) = false))
  case atStart => exact ⟨0, Nat.zero_le _, by omega, rfl, Below.refl _ w, fun j hj => absurd hj (Nat.not_lt_zero _)⟩
  case round =>
    obtain ⟨kk, hkk, hg, rfl, BW, A⟩ := hrel
    by_cases hlt : kk < n
    · have hltz : (kk : Int) < (n : Int) := by omega
      have c0 := (BW.out.cell (p := ⟨b, off + kk, none⟩) (hb (by omega))).trans (HC.out kk hlt)
      generalize hy : l.getD kk 0 = y at c0
      have HY : Aside (l.getD kk 0 = y) := hy
      clear hy
      cases hq : y != 0 with
      | true =>
        have hq' : ¬ y = 0 := by simpa using hq
        go_wp2
        go_ret
        refine ⟨?_, BW.out⟩
        rw [firstE_hit (by omega) (by rw [HY.out]; exact hq) A.out, HY.out]
        rfl
      | false =>
        have hq' : y = 0 := by simpa using hq
        subst hq'
        go_wp2
        go_roundg (n - (kk + 1))
        case measure => omega
        case rel =>
          refine ⟨kk + 1, by omega, by omega, by go_num, BW.out, (show Aside _ from fun j hj => ?_)⟩
          by_cases e : j = kk
          · subst e
            rw [HY.out]; rfl
          · exact A.out j (by omega)
    · have hltz : ¬ (kk : Int) < (n : Int) := by omega
      have : kk = n := by omega
      subst this
      go_wp2
      go_ret
      refine ⟨?_, BW.out⟩
      rw [firstE_miss fun j hj => A.out j (by omega)]
      rfl

theorem cell_frz (w : World) (a : Addr) : (frz w).cell? a = w.cell? a := by
  unfold World.cell?
  rw [frz_heap]
  cases w.heap[a.block]? with
  | none => rfl
  | some o => cases o <;> rfl

/-- What lay there lies there. -/
structure Kc (w w1 : World) : Prop where
  size : w.heap.size ≤ w1.heap.size
  cell : ∀ a v, w.cell? a = some v → w1.cell? a = some v
theorem Kc.refl (w : World) : Kc w w := ⟨Nat.le_refl _, fun _ _ h => h⟩
theorem Kc.trans {a b c : World} (h : Kc a b) (k : Kc b c) : Kc a c := ⟨Nat.le_trans h.size k.size, fun x v hx => k.cell x v (h.cell x v hx)⟩
theorem Kc.heap {w w1 : World} (h : w1.heap = w.heap) : Kc w w1 := ⟨by rw [h]; exact Nat.le_refl _, fun a v hv => by rw [← hv]; unfold World.cell?; rw [h]⟩
theorem Kc.onT (w : World) (X : Tape') : Kc w (onT w X) := .heap rfl
theorem Kc.frz (w : World) : Kc w (frz w) := ⟨by rw [frz_size]; exact Nat.le_refl _, fun a v h => by rw [cell_frz]; exact h⟩
theorem Kc.below {w w1 : World} (h : Below w.heap.size w w1) : Kc w w1 := ⟨h.size, fun _ _ hv => (h.cell (World.block_lt_of_cell? (h := hv))).trans hv⟩
theorem Kc.alloc (w : World) (o : Obj) : Kc w (w.alloc o) := .below ((Below.refl _ w).alloc (Nat.le_refl _) o)
theorem al_size (w : World) (o : Obj) : (w.alloc o).heap.size = w.heap.size + 1 := by
  show (w.heap.push o).size = _
  simp
theorem al_heap (w : World) (o : Obj) : (w.alloc o).heap[w.heap.size]? = some o := by
  show (w.heap.push o)[w.heap.size]? = _
  simp
theorem al_cell (w : World) (cs : Array Value) (e : TypeId) (f : Nat × Nat) (i : Nat) : (w.alloc (.cells cs e f)).cell? ⟨w.heap.size, i, none⟩ = cs[i]? := by
  unfold World.cell?
  simp only [al_heap]
  rfl
theorem Seg.kc {w w1 : World} {v : Value} {l : List Int} (h : Seg w v l) (k : Kc w w1) : Seg w1 v l := by
  rcases h with ⟨e, p, c, hv⟩ | ⟨b, off, c, hv, hc⟩
  · exact .inl ⟨e, p, c, hv⟩
  · exact .inr ⟨b, off, c, hv, fun j hj => k.cell _ _ (hc j hj)⟩

/-- A row of rows of numbers, wherever. -/
structure TabW (w : World) (p : Option Addr) (ws : List (List Int)) : Prop where
  at_ : ∀ j, j < ws.length → ∃ b off v, p = some ⟨b, off, none⟩ ∧ w.cell? ⟨b, off + j, none⟩ = some v ∧ Seg w v (ws.getD j []) ∧ Lies w.heap.size v
theorem TabW.kc {w w1 : World} {p : Option Addr} {ws : List (List Int)} (h : TabW w p ws) (k : Kc w w1) : TabW w1 p ws := ⟨fun j hj => by
  obtain ⟨b, off, v, e, hc, hs, hl⟩ := h.at_ j hj
  exact ⟨b, off, v, e, k.cell _ _ hc, hs.kc k, hl.mono k.size⟩⟩

/-- What the workers tell, so far. -/
def spc (ts : List Int) (ws : List (List Int)) (j : Nat) : List Spec := (List.range j).map fun i => specS (ts.getD i 0) (ws.getD i [])
theorem spc_len (ts : List Int) (ws : List (List Int)) (j : Nat) : (spc ts ws j).length = j := by simp [spc]
theorem spc_succ (ts : List Int) (ws : List (List Int)) (j : Nat) : spc ts ws (j + 1) = spc ts ws j ++ [specS (ts.getD j 0) (ws.getD j [])] := by simp [spc, List.range_succ]
/-- The codes, the shares. -/
def spE (ts : List Int) (ws : List (List Int)) : List Int := (List.range ts.length).map fun i => (Bo.Plain.splitE (ts.getD i 0) (ws.getD i []) : Nat)
def spR (ts : List Int) (ws : List (List Int)) : List (List Int) := (List.range ts.length).map fun i => Bo.Plain.splitV (ts.getD i 0) (ws.getD i [])
theorem spE_len (ts : List Int) (ws : List (List Int)) : (spE ts ws).length = ts.length := by simp [spE]
theorem spR_len (ts : List Int) (ws : List (List Int)) : (spR ts ws).length = ts.length := by simp [spR]
theorem spE_at {ts : List Int} {ws : List (List Int)} {i : Nat} (h : i < ts.length) : (spE ts ws).getD i 0 = (Bo.Plain.splitE (ts.getD i 0) (ws.getD i []) : Nat) := by
  simp [spE, h]
theorem spR_at {ts : List Int} {ws : List (List Int)} {i : Nat} (h : i < ts.length) : (spR ts ws).getD i [] = Bo.Plain.splitV (ts.getD i 0) (ws.getD i []) := by
  simp [spR, h]
/-- What it comes to. -/
def splE (ts : List Int) (ws : List (List Int)) : Int := if ts.length ≠ ws.length ∨ 200 < ts.length then 1 else firstE (spE ts ws)
end Go.Proofs.Ytcobehkadhcjiaa

/-
  crew.Splits: its beginning.
-/
namespace Go.Proofs.Ytcobehkadhcjiaa
open Go Go.Conc Go.ConcN Go.Conc.Lib Go.RowKit Go.Shelf
open Go.ConcR (Payload)

noncomputable def body7 : Code := Try.f7.body.getD .skip
noncomputable def cA : Code := seqL body7
noncomputable def cB : Code := seqL (seqL (seqR body7))
noncomputable def cC : Code := seqR (seqL (seqR body7))
noncomputable def tail7 : Code := seqR (seqR body7)
theorem body7_is : body7 = .seq cA (.seq (.seq cB cC) tail7) := rfl
theorem okA : okCode Try.prog S1 V1 cA = true := by kernel_rfl
theorem okB : okCode Try.prog S1 V1 cB = true := by kernel_rfl

variable [Shift] [Payload] {L : WgLink} {ρ : Rj} {k : List Item} {cs : List Frame}
set_option maxHeartbeats 1000000 in
theorem boxA_mj (hP : OkP Try.prog S1 V1) (va : Value) (p : Option Addr) (m c : Nat) (w : World)
    (K : ∀ (t : Array Value) (w' : World), Sl t 45 [(0, va), (1, .slice p m c), (3, .pointer (some ⟨w.heap.size, 0, none⟩)), (4, .slice none 0 0), (5, .int .i64 0)] → t = #[va, .slice p m c, undef, .pointer (some ⟨w.heap.size, 0, none⟩), .slice none 0 0, .int .i64 0, undef, undef, undef, undef, undef, undef, undef, undef, undef, undef, undef, undef, undef, undef, undef, undef, undef, undef, undef, undef, undef, undef, undef, undef, undef, undef, undef, undef, undef, undef, undef, undef, undef, undef, undef, undef, undef, undef, undef] →
      Kc w w' → w'.heap.size = w.heap.size + 1 → w'.cell? ⟨w.heap.size, 0, none⟩ = some (.slice p m c) → MJ Try.prog L S1 V1 ρ (bare 7 t) [] k cs w') :
    MJ Try.prog L S1 V1 ρ (bare 7 #[va, .slice p m c, undef, undef, undef, undef, undef, undef, undef, undef, undef, undef, undef, undef, undef, undef, undef, undef, undef, undef, undef, undef, undef, undef, undef, undef, undef, undef, undef, undef, undef, undef, undef, undef, undef, undef, undef, undef, undef, undef, undef, undef, undef, undef, undef]) [] (.code cA :: k) cs w := by
  refine MJ.frag hP okA fun T => ?_
  obtain ⟨wT, hwT⟩ : ∃ wT, wT = retape w T := ⟨_, rfl⟩
  have hh : wT.heap = w.heap := by rw [hwT]; rfl
  rw [← hwT]
  clear hwT
  unfold cA
  show Code.wp Try.prog (Code.region 0 _ false) _ _ _
  go_wp2_with fail
  refine fun U => K _ _ ⟨rfl, ?_⟩ rfl ?_ ?_ ?_
  · simp
  · exact (Kc.heap hh).trans ((Kc.alloc wT _).trans (Kc.onT _ U))
  · rw [← hh]; exact al_size wT _
  · rw [← hh]; exact al_cell wT _ _ _ 0

set_option maxHeartbeats 1000000 in
theorem testB_mj (hP : OkP Try.prog S1 V1) (pa : Option Addr) (n ca : Nat) (p : Option Addr) (m c b : Nat) (w : World) (hb : w.cell? ⟨b, 0, none⟩ = some (.slice p m c))
    (K : ∀ (t : Array Value) (U : Tape'), Sl t 45 [(0, .slice pa n ca), (1, .slice p m c), (3, .pointer (some ⟨b, 0, none⟩)), (4, .slice none 0 0), (5, .int .i64 0), (21, .bool (decide (n ≠ m ∨ 200 < n)))] → MJ Try.prog L S1 V1 ρ (bare 7 t) [] k cs (onT w U)) :
    MJ Try.prog L S1 V1 ρ (bare 7 #[.slice pa n ca, .slice p m c, undef, .pointer (some ⟨b, 0, none⟩), .slice none 0 0, .int .i64 0, undef, undef, undef, undef, undef, undef, undef, undef, undef, undef, undef, undef, undef, undef, undef, undef, undef, undef, undef, undef, undef, undef, undef, undef, undef, undef, undef, undef, undef, undef, undef, undef, undef, undef, undef, undef, undef, undef, undef]) [] (.code cB :: k) cs w := by
  refine MJ.frag hP okB fun T => ?_
  have hc : (retape w T).cell? ⟨b, 0, none⟩ = some (.slice p m c) := hb
  have hK : ∀ (t : Array Value) (U : Tape'), Sl t 45 [(0, .slice pa n ca), (1, .slice p m c), (3, .pointer (some ⟨b, 0, none⟩)), (4, .slice none 0 0), (5, .int .i64 0), (21, .bool (decide (n ≠ m ∨ 200 < n)))] → MJ Try.prog L S1 V1 ρ (bare 7 t) [] k cs (onT (retape w T) U) := fun t U h => K t U h
  have HK := hid hK
  obtain ⟨wT, hwT⟩ : ∃ wT, wT = retape w T := ⟨_, rfl⟩
  rw [← hwT] at hc HK ⊢
  clear hwT K hK hb
  unfold cB
  show Code.wp Try.prog (Code.region 1 _ false) _ _ _
  by_cases h1 : n = m
  · subst h1
    have q1 : ((n : Int) != (n : Int)) = false := by simp
    by_cases h2 : 200 < n
    · have q2 : (200 : Int) < (n : Int) := by omega
      go_wp2_with fail
      refine fun U => HK.out _ _ ⟨rfl, ?_⟩
      simp [h2]
    · have q2 : ¬ (200 : Int) < (n : Int) := by omega
      go_wp2_with fail
      refine fun U => HK.out _ _ ⟨rfl, ?_⟩
      simp [h2]
  · have q1 : ((n : Int) != (m : Int)) = true := by simp; omega
    go_wp2_with fail
    refine fun U => HK.out _ _ ⟨rfl, ?_⟩
    simp [h1]
end Go.Proofs.Ytcobehkadhcjiaa

/-
  crew.Splits: the two rows.
-/
namespace Go.Proofs.Ytcobehkadhcjiaa
open Go Go.Conc Go.ConcN Go.Conc.Lib Go.RowKit Go.Shelf
open Go.ConcR (Payload)

noncomputable def c3 : Code := seqL tail7
noncomputable def ops3 : Array Oper := opsC c3
theorem c3_is : c3 = .region 3 ops3 false := rfl
theorem ops3_size : ops3.size = 5 := by kernel_rfl
theorem sz23 (w : World) : (sizeOf 23).run Try.prog w = .ok 1 w := by simp [go_sem]
theorem sze23 (w : World) (es : Array Event) : (sizeOf 23).events Try.prog w es = es := by simp [go_sem]
theorem info22 : (Try.prog.info? 22).map (fun i => (i.zero, i.size, i.bytes)) = some (some (Value.slice none 0 0), 1, 24) := by kernel_rfl
theorem make3 (e : Operand → Value) (w : World) (n : Nat) (hn : n ≤ 200) (h : e (.tmp 23) = .int .i64 n) : (execOp e (ops3[2]'(by rw [ops3_size]; decide))).run Try.prog w = .ok (.value (.slice (some ⟨w.heap.size, 0, none⟩) n n)) (w.alloc (.cells (madeCells #[.slice none 0 0] n) 22)) := by
  have ho : (ops3[2]'(by rw [ops3_size]; decide)).op = Op.makeSlice 23 (.tmp 23) (.tmp 23) := rfl
  have hr := run_make_row' (P := Try.prog) 23 22 (.slice none 0 0) 24 Try.underlying23 info22 rfl .i64 .i64 n (by omega) (by omega) w
  unfold execOp
  rw [ho]
  simp [h, hr]
theorem alloc3 (e : Operand → Value) (w : World) : (execOp e (ops3[3]'(by rw [ops3_size]; decide))).run Try.prog w = .ok (.value (.pointer (some ⟨w.heap.size, 0, none⟩))) (w.alloc (.cells #[.slice none 0 0] 23 (0, 0))) := by
  have ho : (ops3[3]'(by rw [ops3_size]; decide)).op = Op.alloc 23 := rfl
  unfold execOp
  rw [ho]
  simp [go_sem]
theorem mk3_mj [Shift] [Payload] {L : WgLink} {ρ : Rj} {k : List Item} {cs : List Frame} {t : Array Value} {l : List (Nat × Value)} {w : World} (hS : Sl t 45 l) (pa : Option Addr) (n ca : Nat) (h0 : (0, .slice pa n ca) ∈ l) (hn : n ≤ 200)
    (K : ∀ (t' : Array Value) (w' : World), Sl t' 45 (setS 6 (.pointer (some ⟨w.heap.size + 1, 0, none⟩)) (setS 24 (.slice (some ⟨w.heap.size, 0, none⟩) n n) (setS 23 (.int .i64 n) (setS 22 (.slice pa n ca) l)))) → Kc w w' → w'.heap.size = w.heap.size + 2 →
      w'.heap[w.heap.size]? = some (.cells (madeCells #[.slice none 0 0] n) 22 (0, 0)) → w'.cell? ⟨w.heap.size + 1, 0, none⟩ = some (.slice (some ⟨w.heap.size, 0, none⟩) n n) → (∀ a, a < w.heap.size → w'.heap[a]? = w.heap[a]?) → MJ Try.prog L S1 V1 ρ (bare 7 t') [] k cs w') :
    MJ Try.prog L S1 V1 ρ (bare 7 t) [] (.code c3 :: k) cs w := by
  rw [c3_is]
  refine MJ.reg (r := [0, 1, 2, 3, 4]) (by rw [ops3_size]; rfl) ?_
  refine MJ.mv hS (o := ops3[0]'(by rw [ops3_size]; decide)) 0 22 (.slice pa n ca) rfl (.inl rfl) rfl rfl (by omega) h0 fun t1 U1 hS1 => ?_
  refine MJ.vl hS1 (o := ops3[1]'(by rw [ops3_size]; decide)) 23 (.int .i64 n) rfl rfl rfl (by omega) (by kernel_rfl) (fun T => run_len (x := .tmp 22) (ty := 22) (el := 3) rfl Try.underlying22 pa n ca (hS1.ev (by simp [setS]))) fun t2 U2 hS2 => ?_
  refine MJ.ow hS2 (o := ops3[2]'(by rw [ops3_size]; decide)) 24 rfl rfl rfl (by omega) (by kernel_rfl) fun T => ⟨_, _, make3 _ _ n hn (hS2.ev (by simp [setS])), fun t3 hS3 => ?_⟩
  obtain ⟨wa, hwa⟩ : ∃ wa, wa = (retape (onT (onT w U1) U2) T).alloc (.cells (madeCells #[.slice none 0 0] n) 22 (0, 0)) := ⟨_, rfl⟩
  have ea : (retape (onT (onT w U1) U2) T).heap.size = w.heap.size := rfl
  have sa : wa.heap.size = w.heap.size + 1 := by rw [hwa, al_size]; rfl
  have ra : wa.heap[w.heap.size]? = some (.cells (madeCells #[.slice none 0 0] n) 22 (0, 0)) := by rw [hwa, ← ea]; exact al_heap _ _
  have oa : ∀ a, a < w.heap.size → wa.heap[a]? = w.heap[a]? := fun a ha => by rw [hwa]; exact Below.heap_alloc _ _ _ ha
  rw [ea] at hS3
  rw [← hwa]
  clear hwa ea
  refine MJ.ow hS3 (o := ops3[3]'(by rw [ops3_size]; decide)) 6 rfl rfl rfl (by omega) (by kernel_rfl) fun T => ⟨_, _, alloc3 _ _, fun t4 hS4 => ?_⟩
  obtain ⟨wb, hwb⟩ : ∃ wb, wb = (retape wa T).alloc (.cells #[.slice none 0 0] 23 (0, 0)) := ⟨_, rfl⟩
  have eb : (retape wa T).heap.size = w.heap.size + 1 := sa
  have sb : wb.heap.size = w.heap.size + 2 := by rw [hwb, al_size, eb]
  have rb : wb.heap[w.heap.size + 1]? = some (.cells #[.slice none 0 0] 23 (0, 0)) := by rw [hwb, ← eb]; exact al_heap _ _
  have ob : ∀ a, a < w.heap.size + 1 → wb.heap[a]? = wa.heap[a]? := fun a ha => by rw [hwb]; exact Below.heap_alloc (retape wa T) _ _ (by rw [eb]; exact ha)
  rw [eb] at hS4
  rw [← hwb]
  clear hwb eb
  refine MJ.opS (o := ops3[4]'(by rw [ops3_size]; decide)) rfl rfl (by kernel_rfl) fun T => ?_
  have c0 : (retape wb T).cell? ⟨w.heap.size + 1, 0, none⟩ = some (.slice none 0 0) := by
    show wb.cell? _ = _
    simp [World.cell?, rb]
  have f0 : (retape wb T).frozen? ⟨w.heap.size + 1, 0, none⟩ = false := by
    show wb.frozen? _ = _
    simp [World.frozen?, rb]
  have r4 := (store_one (e := Act.eval ⟨t4, []⟩) (o := ops3[4]'(by rw [ops3_size]; decide)) (x := .tmp 6) (y := .tmp 24) sz23 sze23 rfl (retape wb T) #[] ⟨w.heap.size + 1, 0, none⟩ (.slice (some ⟨w.heap.size, 0, none⟩) n n) _ (hS4.ev (by simp [setS])) (hS4.ev (by simp [setS])) rfl c0 f0).1
  refine ⟨_, r4, ?_⟩
  refine MJ.regE ?_
  obtain ⟨wc, hwc⟩ : ∃ wc, wc = (retape wb T).setCell ⟨w.heap.size + 1, 0, none⟩ (.slice (some ⟨w.heap.size, 0, none⟩) n n) := ⟨_, rfl⟩
  have hc2 : wc.heap[w.heap.size + 1]? = some (.cells #[.slice (some ⟨w.heap.size, 0, none⟩) n n] 23 (0, 0)) := by
    have : (retape wb T).heap[w.heap.size + 1]? = some (.cells #[.slice none 0 0] 23 (0, 0)) := rb
    rw [hwc]
    simp [World.setCell, Array.getElem?_modify, this]
  have sc : wc.heap.size = w.heap.size + 2 := by
    rw [hwc]
    have : (retape wb T).heap.size = w.heap.size + 2 := sb
    simp [World.setCell, this]
  have oc : ∀ a, a ≠ w.heap.size + 1 → wc.heap[a]? = wb.heap[a]? := fun a ha => by rw [hwc]; exact Below.heap_setCell (retape wb T) ⟨w.heap.size + 1, 0, none⟩ _ a ha
  rw [show putT t4 (ops3[4]'(by rw [ops3_size]; decide)).dst undef = t4 from rfl, ← hwc]
  clear hwc r4 c0 f0
  have old : ∀ a, a < w.heap.size → wc.heap[a]? = w.heap[a]? := fun a ha => by rw [oc a (by omega), ob a (by omega), oa a ha]
  refine K t4 wc hS4 ⟨by omega, fun a v hv => ?_⟩ sc ?_ ?_ old
  · have hlt := World.block_lt_of_cell? (h := hv)
    rw [World.cell?_of_block (old _ hlt)]; exact hv
  · rw [oc _ (by omega), ob _ (by omega)]; exact ra
  · simp [World.cell?, hc2]

noncomputable def c4 : Code := seqL (seqR tail7)
noncomputable def ops4 : Array Oper := opsC c4
theorem c4_is : c4 = .region 4 ops4 false := rfl
theorem ops4_size : ops4.size = 5 := by kernel_rfl
theorem sz47 (w : World) : (sizeOf 47).run Try.prog w = .ok 1 w := by simp [go_sem]
theorem sze47 (w : World) (es : Array Event) : (sizeOf 47).events Try.prog w es = es := by simp [go_sem]
theorem info24 : (Try.prog.info? 24).map (fun i => (i.zero, i.size, i.bytes)) = some (some (Value.int .i64 0), 1, 8) := by kernel_rfl
theorem make4 (e : Operand → Value) (w : World) (n : Nat) (hn : n ≤ 200) (h : e (.tmp 26) = .int .i64 n) : (execOp e (ops4[2]'(by rw [ops4_size]; decide))).run Try.prog w = .ok (.value (.slice (some ⟨w.heap.size, 0, none⟩) n n)) (w.alloc (.cells (madeCells #[.int .i64 0] n) 24)) := by
  have ho : (ops4[2]'(by rw [ops4_size]; decide)).op = Op.makeSlice 47 (.tmp 26) (.tmp 26) := rfl
  have hr := run_make_row' (P := Try.prog) 47 24 (.int .i64 0) 8 Try.underlying47 info24 rfl .i64 .i64 n (by omega) (by omega) w
  unfold execOp
  rw [ho]
  simp [h, hr]
theorem alloc4 (e : Operand → Value) (w : World) : (execOp e (ops4[3]'(by rw [ops4_size]; decide))).run Try.prog w = .ok (.value (.pointer (some ⟨w.heap.size, 0, none⟩))) (w.alloc (.cells #[.slice none 0 0] 47 (0, 0))) := by
  have ho : (ops4[3]'(by rw [ops4_size]; decide)).op = Op.alloc 47 := rfl
  unfold execOp
  rw [ho]
  simp [go_sem]
theorem mk4_mj [Shift] [Payload] {L : WgLink} {ρ : Rj} {k : List Item} {cs : List Frame} {t : Array Value} {l : List (Nat × Value)} {w : World} (hS : Sl t 45 l) (pa : Option Addr) (n ca : Nat) (h0 : (0, .slice pa n ca) ∈ l) (hn : n ≤ 200)
    (K : ∀ (t' : Array Value) (w' : World), Sl t' 45 (setS 7 (.pointer (some ⟨w.heap.size + 1, 0, none⟩)) (setS 27 (.slice (some ⟨w.heap.size, 0, none⟩) n n) (setS 26 (.int .i64 n) (setS 25 (.slice pa n ca) l)))) → Kc w w' → w'.heap.size = w.heap.size + 2 →
      w'.heap[w.heap.size]? = some (.cells (madeCells #[.int .i64 0] n) 24 (0, 0)) → w'.cell? ⟨w.heap.size + 1, 0, none⟩ = some (.slice (some ⟨w.heap.size, 0, none⟩) n n) → (∀ a, a < w.heap.size → w'.heap[a]? = w.heap[a]?) → MJ Try.prog L S1 V1 ρ (bare 7 t') [] k cs w') :
    MJ Try.prog L S1 V1 ρ (bare 7 t) [] (.code c4 :: k) cs w := by
  rw [c4_is]
  refine MJ.reg (r := [0, 1, 2, 3, 4]) (by rw [ops4_size]; rfl) ?_
  refine MJ.mv hS (o := ops4[0]'(by rw [ops4_size]; decide)) 0 25 (.slice pa n ca) rfl (.inl rfl) rfl rfl (by omega) h0 fun t1 U1 hS1 => ?_
  refine MJ.vl hS1 (o := ops4[1]'(by rw [ops4_size]; decide)) 26 (.int .i64 n) rfl rfl rfl (by omega) (by kernel_rfl) (fun T => run_len (x := .tmp 25) (ty := 22) (el := 3) rfl Try.underlying22 pa n ca (hS1.ev (by simp [setS]))) fun t2 U2 hS2 => ?_
  refine MJ.ow hS2 (o := ops4[2]'(by rw [ops4_size]; decide)) 27 rfl rfl rfl (by omega) (by kernel_rfl) fun T => ⟨_, _, make4 _ _ n hn (hS2.ev (by simp [setS])), fun t3 hS3 => ?_⟩
  obtain ⟨wa, hwa⟩ : ∃ wa, wa = (retape (onT (onT w U1) U2) T).alloc (.cells (madeCells #[.int .i64 0] n) 24 (0, 0)) := ⟨_, rfl⟩
  have ea : (retape (onT (onT w U1) U2) T).heap.size = w.heap.size := rfl
  have sa : wa.heap.size = w.heap.size + 1 := by rw [hwa, al_size]; rfl
  have ra : wa.heap[w.heap.size]? = some (.cells (madeCells #[.int .i64 0] n) 24 (0, 0)) := by rw [hwa, ← ea]; exact al_heap _ _
  have oa : ∀ a, a < w.heap.size → wa.heap[a]? = w.heap[a]? := fun a ha => by rw [hwa]; exact Below.heap_alloc _ _ _ ha
  rw [ea] at hS3
  rw [← hwa]
  clear hwa ea
  refine MJ.ow hS3 (o := ops4[3]'(by rw [ops4_size]; decide)) 7 rfl rfl rfl (by omega) (by kernel_rfl) fun T => ⟨_, _, alloc4 _ _, fun t4 hS4 => ?_⟩
  obtain ⟨wb, hwb⟩ : ∃ wb, wb = (retape wa T).alloc (.cells #[.slice none 0 0] 47 (0, 0)) := ⟨_, rfl⟩
  have eb : (retape wa T).heap.size = w.heap.size + 1 := sa
  have sb : wb.heap.size = w.heap.size + 2 := by rw [hwb, al_size, eb]
  have rb : wb.heap[w.heap.size + 1]? = some (.cells #[.slice none 0 0] 47 (0, 0)) := by rw [hwb, ← eb]; exact al_heap _ _
  have ob : ∀ a, a < w.heap.size + 1 → wb.heap[a]? = wa.heap[a]? := fun a ha => by rw [hwb]; exact Below.heap_alloc (retape wa T) _ _ (by rw [eb]; exact ha)
  rw [eb] at hS4
  rw [← hwb]
  clear hwb eb
  refine MJ.opS (o := ops4[4]'(by rw [ops4_size]; decide)) rfl rfl (by kernel_rfl) fun T => ?_
  have c0 : (retape wb T).cell? ⟨w.heap.size + 1, 0, none⟩ = some (.slice none 0 0) := by
    show wb.cell? _ = _
    simp [World.cell?, rb]
  have f0 : (retape wb T).frozen? ⟨w.heap.size + 1, 0, none⟩ = false := by
    show wb.frozen? _ = _
    simp [World.frozen?, rb]
  have r4 := (store_one (e := Act.eval ⟨t4, []⟩) (o := ops4[4]'(by rw [ops4_size]; decide)) (x := .tmp 7) (y := .tmp 27) sz47 sze47 rfl (retape wb T) #[] ⟨w.heap.size + 1, 0, none⟩ (.slice (some ⟨w.heap.size, 0, none⟩) n n) _ (hS4.ev (by simp [setS])) (hS4.ev (by simp [setS])) rfl c0 f0).1
  refine ⟨_, r4, ?_⟩
  refine MJ.regE ?_
  obtain ⟨wc, hwc⟩ : ∃ wc, wc = (retape wb T).setCell ⟨w.heap.size + 1, 0, none⟩ (.slice (some ⟨w.heap.size, 0, none⟩) n n) := ⟨_, rfl⟩
  have hc2 : wc.heap[w.heap.size + 1]? = some (.cells #[.slice (some ⟨w.heap.size, 0, none⟩) n n] 47 (0, 0)) := by
    have : (retape wb T).heap[w.heap.size + 1]? = some (.cells #[.slice none 0 0] 47 (0, 0)) := rb
    rw [hwc]
    simp [World.setCell, Array.getElem?_modify, this]
  have sc : wc.heap.size = w.heap.size + 2 := by
    rw [hwc]
    have : (retape wb T).heap.size = w.heap.size + 2 := sb
    simp [World.setCell, this]
  have oc : ∀ a, a ≠ w.heap.size + 1 → wc.heap[a]? = wb.heap[a]? := fun a ha => by rw [hwc]; exact Below.heap_setCell (retape wb T) ⟨w.heap.size + 1, 0, none⟩ _ a ha
  rw [show putT t4 (ops4[4]'(by rw [ops4_size]; decide)).dst undef = t4 from rfl, ← hwc]
  clear hwc r4 c0 f0
  have old : ∀ a, a < w.heap.size → wc.heap[a]? = w.heap[a]? := fun a ha => by rw [oc a (by omega), ob a (by omega), oa a ha]
  refine K t4 wc hS4 ⟨by omega, fun a v hv => ?_⟩ sc ?_ ?_ old
  · have hlt := World.block_lt_of_cell? (h := hv)
    rw [World.cell?_of_block (old _ hlt)]; exact hv
  · rw [oc _ (by omega), ob _ (by omega)]; exact ra
  · simp [World.cell?, hc2]
end Go.Proofs.Ytcobehkadhcjiaa
