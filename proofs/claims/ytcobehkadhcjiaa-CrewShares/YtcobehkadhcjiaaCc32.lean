/-
  Goroutines among others: part 32 of what the law's own text rests on.
-/
import Derived.Test.YtcobehkadhcjiaaCc30
import Derived.Test.YtcobehkadhcjiaaCc31
import Derived.Maps.AppendAt
/-
  The document's CrewSplits: its code, its beginning.
-/
namespace Go.Proofs.Ytcobehkadhcjiaa
open Go Go.Conc Go.ConcN Go.Conc.Lib Go.RowKit Go.Shelf
open Go.ConcR (Payload)

theorem rsplit_own (v : Value) (l : List Int) (t : Int) (hbig : l.length ≤ 9223372036854775807) (w : World) (h : Seg w v l) (hv : Lies w.heap.size v) :
    Calls Try.prog 25 #[.int .i64 t, v] w fun e w' => ∃ r, e = .returned (.tuple #[r, .int .i64 (Bo.Plain.splitE t l : Nat)]) ∧ OwnI w.heap.size w' r (Bo.Plain.splitV t l) ∧ Below w.heap.size w w' := by
  obtain ⟨p, c, rfl, hp⟩ := Bo.seg_wants h hv
  by_cases he : Bo.Plain.splitE t l = 0
  · refine (Bo.rsplit_ok p l.length c l t he w rfl hp).mono ?_
    rintro e w' ⟨rfl, hr, hb⟩
    rw [he, Bo.Plain.splitV_ok he]
    refine ⟨_, rfl, .inr ⟨w.heap.size, l.length, ?_, hr, Nat.le_refl _⟩, hb⟩
    rw [Bo.Plain.split_len]
  · refine (Bo.rsplit_err p l.length c l t he w rfl hbig hp).mono ?_
    rintro e w' ⟨rfl, rfl⟩
    rw [Bo.Plain.splitV_no he]
    exact ⟨_, rfl, .inl ⟨rfl, rfl⟩, Below.refl _ _⟩

noncomputable def body8 : Code := Try.f8.body.getD .skip
noncomputable def q0 : Code := seqL body8
noncomputable def q1 : Code := seqL (seqL (seqR body8))
noncomputable def qc : Code := seqR (seqL (seqR body8))
noncomputable def q2 : Code := match qc with | .cond _ (.seq a _) _ => a | c => c
noncomputable def q3r : Code := seqR (seqR body8)
noncomputable def q3 : Code := seqL q3r
noncomputable def q4r : Code := seqR q3r
noncomputable def q4 : Code := seqL (seqL q4r)
noncomputable def rn8 : Code := lopC (blkC (seqR (seqL q4r)))
noncomputable def q12 : Code := seqL (seqR q4r)
noncomputable def q5 : Code := seqL rn8
noncomputable def in8 : Code := blkC (seqL (seqR (seqR rn8)))
noncomputable def q11 : Code := seqR (seqR (seqR rn8))
noncomputable def q6 : Code := seqL in8
noncomputable def q7 : Code := seqL (seqR in8)
noncomputable def q8r : Code := seqR (seqR in8)
noncomputable def q8 : Code := seqL (seqL q8r)
noncomputable def q10 : Code := seqR q8r
noncomputable def q9 : Code := match seqR (seqL q8r) with | .cond _ (.seq a _) _ => a | c => c
noncomputable def opsR (i : Nat) : Array Oper := match i with
  | 2 => opsC q2
  | 3 => opsC q3
  | 4 => opsC q4
  | 5 => opsC q5
  | 6 => opsC q6
  | 7 => opsC q7
  | 8 => opsC q8
  | 9 => opsC q9
  | 10 => opsC q10
  | 11 => opsC q11
  | 12 => opsC q12
  | _ => #[]
theorem body8_is : body8 = .seq q0 (.seq (.seq q1 (.cond (.tmp 19) (.seq (.region 2 (opsR 2) false) .ret) .skip)) (.seq (.region 3 (opsR 3) false) (.seq (.seq (.region 4 (opsR 4) false) (.block 0 (.loop rn8))) (.seq (.region 12 (opsR 12) false) .ret)))) := rfl
theorem rn8_is : rn8 = .seq (.region 5 (opsR 5) false) (.seq (.cond (.tmp 23) .skip (.exit 0)) (.seq (.block 1 in8) (.region 11 (opsR 11) false))) := rfl
theorem in8_is : in8 = .seq (.region 6 (opsR 6) false) (.seq (.region 7 (opsR 7) true) (.seq (.seq (.region 8 (opsR 8) false) (.cond (.tmp 38) (.seq (.region 9 (opsR 9) false) .ret) .skip)) (.region 10 (opsR 10) false))) := rfl
theorem okq0 : okCode Try.prog S1 V1 q0 = true := by kernel_rfl
theorem okq1 : okCode Try.prog S1 V1 q1 = true := by kernel_rfl
theorem sizeR2 : (opsR 2).size = 2 := by kernel_rfl
theorem sizeR3 : (opsR 3).size = 1 := by kernel_rfl
theorem sizeR4 : (opsR 4).size = 3 := by kernel_rfl
theorem sizeR5 : (opsR 5).size = 1 := by kernel_rfl
theorem sizeR6 : (opsR 6).size = 2 := by kernel_rfl
theorem sizeR8 : (opsR 8).size = 2 := by kernel_rfl
theorem sizeR9 : (opsR 9).size = 3 := by kernel_rfl
theorem sizeR10 : (opsR 10).size = 5 := by kernel_rfl
theorem sizeR11 : (opsR 11).size = 2 := by kernel_rfl
theorem sizeR12 : (opsR 12).size = 3 := by kernel_rfl

def d8 (j : Nat) : Nat := [26, 27, 28, 29, 30, 31, 32, 33, 34, 25, 35, 36, 8, 9].getD j 0
theorem low8 : ((List.range 14).all fun i => match (opsR 7)[i]? with | some o => o.after.all (fun e => !Region.binds .any e || decide (e.on < i)) | none => true) = true := by kernel_rfl
theorem size7 : (opsR 7).size = 14 := by kernel_rfl
theorem lt_of {ops : Array Oper} {n : Nat} (hz : ops.size = n) (h : ((List.range n).all fun i => match ops[i]? with | some o => o.after.all (fun e => !Region.binds .any e || decide (e.on < i)) | none => true) = true) : ∀ i o, ops[i]? = some o → ∀ e ∈ o.after, Region.binds .any e = true → e.on < i := fun i o ho e he hb => by
  have hi : i < n := by have := (Array.getElem?_eq_some_iff.1 ho).1; omega
  have := List.all_eq_true.1 h i (List.mem_range.2 hi)
  rw [ho] at this
  have := Array.all_eq_true_iff_forall_mem.1 this e he
  simpa [hb] using this
theorem pair8 : PairC (opsR 7) 0 7 1 25 d8 :=
  { size := size7, sink := by kernel_rfl, low := lt_of size7 low8, ok := by kernel_rfl
    o0 := ⟨(opsR 7)[0]'(by rw [size7]; decide), rfl, rfl, rfl, .inl rfl⟩, o1 := ⟨(opsR 7)[1]'(by rw [size7]; decide), rfl, rfl, rfl, .inl rfl⟩, o2 := ⟨(opsR 7)[2]'(by rw [size7]; decide), rfl, rfl, rfl, rfl⟩, o3 := ⟨(opsR 7)[3]'(by rw [size7]; decide), rfl, rfl, rfl, rfl⟩
    o4 := ⟨(opsR 7)[4]'(by rw [size7]; decide), rfl, rfl, rfl, .inl rfl⟩, o5 := ⟨(opsR 7)[5]'(by rw [size7]; decide), rfl, rfl, rfl, .inl rfl⟩, o6 := ⟨(opsR 7)[6]'(by rw [size7]; decide), rfl, rfl, rfl, rfl⟩, o7 := ⟨(opsR 7)[7]'(by rw [size7]; decide), rfl, rfl, rfl, rfl⟩
    o8 := ⟨(opsR 7)[8]'(by rw [size7]; decide), rfl, rfl, rfl, rfl⟩, o9 := ⟨(opsR 7)[9]'(by rw [size7]; decide), rfl, rfl, rfl, .inl rfl⟩, o10 := ⟨(opsR 7)[10]'(by rw [size7]; decide), rfl, rfl, rfl, rfl⟩, o11 := ⟨(opsR 7)[11]'(by rw [size7]; decide), rfl, rfl, rfl, rfl⟩
    o12 := ⟨(opsR 7)[12]'(by rw [size7]; decide), rfl, rfl, rfl, .inr rfl⟩, o13 := ⟨(opsR 7)[13]'(by rw [size7]; decide), rfl, rfl, rfl, .inr rfl⟩
    w20 := by kernel_rfl, w21 := by kernel_rfl, w32 := by kernel_rfl, w64 := by kernel_rfl, w65 := by kernel_rfl, w76 := by kernel_rfl, w83 := by kernel_rfl, w87 := by kernel_rfl, w98 := by kernel_rfl, wA9 := by kernel_rfl, wB9 := by kernel_rfl, wCA := by kernel_rfl
    call := enters_of Try.func25 (by kernel_rfl) rfl, mixed := mixed, inj := by decide, src := by decide }
end Go.Proofs.Ytcobehkadhcjiaa

/-
  The document's CrewSplits, whole.
-/
namespace Go.Proofs.Ytcobehkadhcjiaa
open Go Go.Conc Go.ConcN Go.Conc.Lib Go.RowKit Go.Shelf
open Go.ConcR (Payload)

theorem run_app {P : Program} {e : Operand → Value} {w : World} {o : Oper} {x y : Operand} {ty el : TypeId} {i : TypeInfo} {z : Value} {bytes : Nat} (ho : o.op = .call { callee := .builtin .append, args := #[x, y], argTypes := #[ty, ty] })
    (hu : P.underlying ty = some (.slice el)) (hi : P.info? el = some i) (hz : i.zero = some z) (hs : i.size = 1) (hb : i.bytes = bytes) (hzs : z.cells.size = 1) (hbb : bytes ≤ 1000) (B : Nat) (v : Value) (n : Nat) (xs : List Value) (hO : w.ownsRow B el 1 v n xs)
    (a : Addr) (m c : Nat) (ys : List Value) (hl : ys.length = m) (hy : ∀ j u, ys[j]? = some u → w.cell? (a.add j) = some u) (h1 : ∀ u ∈ ys, u.oneCell' = true) (hn : n + m ≤ 100000) (hB : B ≤ w.heap.size) (e1 : e x = v) (e2 : e y = .slice (some a) m c) :
    ∃ v' w', (execOp e o).run P w = .ok (.value v') w' ∧ w'.ownsRow B el 1 v' (n + m) (xs ++ ys) ∧ w.grownBy w' v.ownBlock ∧ (v'.ownBlock = v.ownBlock ∨ v'.ownBlock = some w.heap.size) := by
  obtain ⟨v', w', r1, r2, r3, _, r5⟩ := run_append_own_at (P := P) (w := w) B ty o.type el i z 1 bytes hu hi hz hs hb hzs (by omega) v n xs hO a m c ys (by rw [hl]; omega) hy h1 (by unfold maxLen; omega) (by have := Nat.mul_le_mul hn hbb; omega) hB
  refine ⟨v', w', ?_, r2, r3, r5⟩
  unfold execOp
  rw [ho]
  simp [resolve, invoke, builtin, e1, e2, r1]

theorem run_build1 {e : Operand → Value} {w : World} {o : Oper} {x : Operand} (ho : o.op = .buildSlice 23 1 #[(0, x)]) (a : Option Addr) (n c : Nat) (h : e x = .slice a n c) : (execOp e o).run Try.prog w = .ok (.value (.slice (some ⟨w.heap.size, 0, none⟩) 1 1)) (w.alloc (.cells #[.slice a n c] 22 (0, 0))) := by
  unfold execOp
  rw [ho]
  simp [go_sem, h]

/-- What the document's tells. -/
def OutD (ts : List Int) (ws : List (List Int)) (w : World) (r : Value) : Prop := (splE ts ws ≠ 0 → r = .slice none 0 0) ∧ (splE ts ws = 0 → ∃ p c, r = .slice p ts.length c ∧ TabW w p (spR ts ws))
theorem OutR.d {ts : List Int} {ws : List (List Int)} {w : World} {r : Value} (h : OutR ts ws w r) : OutD ts ws w r := ⟨h.1, fun e => by
  obtain ⟨g, c, h1, h2⟩ := h.2 e
  exact ⟨_, c, h1, h2⟩⟩

variable [Shift] [Payload] {L : WgLink} {ρ : Rj} {k : List Item} {cs : List Frame}
set_option maxHeartbeats 1000000 in
theorem ref0_mj (hP : OkP Try.prog S1 V1) (va vb : Value) (w : World)
    (K : ∀ (U : Tape'), MJ Try.prog L S1 V1 ρ (bare 8 #[va, vb, undef, undef, .slice none 0 0, .int .i64 0, undef, undef, undef, undef, undef, undef, undef, undef, undef, undef, undef, undef, undef, undef, undef, undef, undef, undef, undef, undef, undef, undef, undef, undef, undef, undef, undef, undef, undef, undef, undef, undef, undef, undef, undef, undef, undef, undef, undef, undef]) [] k cs (onT w U)) :
    MJ Try.prog L S1 V1 ρ (bare 8 #[va, vb, undef, undef, undef, undef, undef, undef, undef, undef, undef, undef, undef, undef, undef, undef, undef, undef, undef, undef, undef, undef, undef, undef, undef, undef, undef, undef, undef, undef, undef, undef, undef, undef, undef, undef, undef, undef, undef, undef, undef, undef, undef, undef, undef, undef]) [] (.code q0 :: k) cs w := by
  refine MJ.frag hP okq0 fun T => ?_
  have HK := hid (show ∀ U, MJ Try.prog L S1 V1 ρ (bare 8 #[va, vb, undef, undef, .slice none 0 0, .int .i64 0, undef, undef, undef, undef, undef, undef, undef, undef, undef, undef, undef, undef, undef, undef, undef, undef, undef, undef, undef, undef, undef, undef, undef, undef, undef, undef, undef, undef, undef, undef, undef, undef, undef, undef, undef, undef, undef, undef, undef, undef]) [] k cs (onT (retape w T) U) from fun U => K U)
  obtain ⟨wT, hwT⟩ : ∃ wT, wT = retape w T := ⟨_, rfl⟩
  rw [← hwT] at HK ⊢
  clear hwT K
  unfold q0
  show Code.wp Try.prog (Code.region 0 _ false) _ _ _
  go_wp2_with fail
  exact fun U => HK.out U

set_option maxHeartbeats 1000000 in
theorem ref1_mj (hP : OkP Try.prog S1 V1) (pa : Option Addr) (n ca : Nat) (p : Option Addr) (m c : Nat) (w : World)
    (K : ∀ (t : Array Value) (U : Tape'), Sl t 46 [(0, .slice pa n ca), (1, .slice p m c), (4, .slice none 0 0), (5, .int .i64 0), (19, .bool (decide (n ≠ m ∨ 200 < n)))] → MJ Try.prog L S1 V1 ρ (bare 8 t) [] k cs (onT w U)) :
    MJ Try.prog L S1 V1 ρ (bare 8 #[.slice pa n ca, .slice p m c, undef, undef, .slice none 0 0, .int .i64 0, undef, undef, undef, undef, undef, undef, undef, undef, undef, undef, undef, undef, undef, undef, undef, undef, undef, undef, undef, undef, undef, undef, undef, undef, undef, undef, undef, undef, undef, undef, undef, undef, undef, undef, undef, undef, undef, undef, undef, undef]) [] (.code q1 :: k) cs w := by
  refine MJ.frag hP okq1 fun T => ?_
  have HK := hid (show ∀ (t : Array Value) (U : Tape'), Sl t 46 [(0, .slice pa n ca), (1, .slice p m c), (4, .slice none 0 0), (5, .int .i64 0), (19, .bool (decide (n ≠ m ∨ 200 < n)))] → MJ Try.prog L S1 V1 ρ (bare 8 t) [] k cs (onT (retape w T) U) from fun t U h => K t U h)
  obtain ⟨wT, hwT⟩ : ∃ wT, wT = retape w T := ⟨_, rfl⟩
  rw [← hwT] at HK ⊢
  clear hwT K
  unfold q1
  show Code.wp Try.prog (Code.region 1 _ false) _ _ _
  by_cases h1 : n = m
  · subst h1
    have x1 : ((n : Int) != (n : Int)) = false := by simp
    by_cases h2 : 200 < n
    · have x2 : (200 : Int) < (n : Int) := by omega
      go_wp2_with fail
      refine fun U => HK.out _ _ ⟨rfl, ?_⟩
      simp [h2]
    · have x2 : ¬ (200 : Int) < (n : Int) := by omega
      go_wp2_with fail
      refine fun U => HK.out _ _ ⟨rfl, ?_⟩
      simp [h2]
  · have x1 : ((n : Int) != (m : Int)) = true := by simp; omega
    go_wp2_with fail
    refine fun U => HK.out _ _ ⟨rfl, ?_⟩
    simp [h1]
end Go.Proofs.Ytcobehkadhcjiaa

/-
  The document's CrewSplits: its loop.
-/
namespace Go.Proofs.Ytcobehkadhcjiaa
open Go Go.Conc Go.ConcN Go.Conc.Lib Go.RowKit Go.Shelf
open Go.ConcR (Payload)

theorem info22' : (Try.prog.info? 22).map (fun i => (i.zero, i.size, i.bytes)) = some (some (Value.slice none 0 0), 1, 24) := by kernel_rfl
/-- What came in. -/
structure In8 where
  W0 : World
  pa : Option Addr
  n : Nat
  ca : Nat
  pb : Option Addr
  cb : Nat
  ts : List Int
  ws : List (List Int)
def In8.sl (D : In8) (j : Nat) (out : Value) : List (Nat × Value) := [(0, .slice D.pa D.n D.ca), (1, .slice D.pb D.n D.cb), (6, out), (20, .slice D.pa D.n D.ca), (21, .int .i64 D.n), (22, .int .i64 j)]
structure Ok8 (D : In8) : Prop where
  ht : D.ts.length = D.n
  hw : D.ws.length = D.n
  hn : D.n ≤ 200
  seg : Seg D.W0 (.slice D.pa D.n D.ca) D.ts
  tab : TabW D.W0 D.pb D.ws
  big : ∀ j, (D.ws.getD j []).length ≤ 9223372036854775807
structure St8 (D : In8) (t : Array Value) (w : World) (j : Nat) (out : Value) (xs : List Value) : Prop where
  sl : Sl t 46 (D.sl j out)
  kx : Kx D.W0 w
  own : w.ownsRow D.W0.heap.size 22 1 out j xs
  rows : ∀ i, i < j → ∃ v, xs[i]? = some v ∧ OwnI 0 w v ((spR D.ts D.ws).getD i [])
  pre : ∀ i, i < j → ((spE D.ts D.ws).getD i 0 != 0) = false

theorem OwnI.grown {w w1 : World} {r : Value} {l : List Int} {B : Nat} (h : OwnI B w r l) {row : Option Nat} (hg : w.grownBy w1 row) (hr : ∀ g, row = some g → ∃ c, w.heap[g]? = some (.cells c 22 (0, 0))) : OwnI B w1 r l := by
  rcases h with h | ⟨g, c, e, hR, hB⟩
  · exact .inl h
  · refine .inr ⟨g, c, e, hR.of_block (hg.block g hR.lt fun e1 => ?_), hB⟩
    obtain ⟨c1, h1⟩ := hr g e1.symm
    obtain ⟨cur, h2, _⟩ := hR
    rw [h1] at h2
    cases h2
theorem OwnI.kx {w w1 : World} {r : Value} {l : List Int} {B : Nat} (h : OwnI B w r l) (k : Kx w w1) : OwnI B w1 r l := by
  rcases h with h | ⟨g, c, e, hR, hB⟩
  · exact .inl h
  · exact .inr ⟨g, c, e, hR.of_block (k.block g hR.lt), hB⟩
theorem OwnI.zero {B : Nat} {w : World} {r : Value} {l : List Int} (h : OwnI B w r l) : OwnI 0 w r l := by
  rcases h with h | ⟨g, c, e, hR, hB⟩
  · exact .inl h
  · exact .inr ⟨g, c, e, hR, Nat.zero_le _⟩
theorem OwnI.lies {B : Nat} {w : World} {r : Value} {l : List Int} (h : OwnI B w r l) : Lies w.heap.size r := by
  rcases h with ⟨_, rfl⟩ | ⟨g, c, rfl, hR, hB⟩
  · exact lies_nil _ _ _
  · exact lies_at hR.lt
theorem owns_kx {w w1 : World} {B T n : Nat} {v : Value} {xs : List Value} (h : w.ownsRow B T 1 v n xs) (k : Kx w w1) : w1.ownsRow B T 1 v n xs := by
  refine ⟨h.1, ?_⟩
  rcases h.2 with h0 | ⟨g, cap, cur, e1, hB, hb, h3⟩
  · exact .inl h0
  · exact .inr ⟨g, cap, cur, e1, hB, (k.block g (Array.getElem?_eq_some_iff.1 hb).1).trans hb, h3⟩
theorem owns_form {w : World} {B T n : Nat} {v : Value} {xs : List Value} (h : w.ownsRow B T 1 v n xs) : ∃ p c, v = .slice p n c ∧ ∀ i x, xs[i]? = some x → ∃ g, p = some ⟨g, 0, none⟩ ∧ w.cell? ⟨g, 0 + i, none⟩ = some x := by
  have hl := h.1
  rcases h.2 with ⟨e, hn⟩ | ⟨g, cap, cur, e, _, hb, _, _, _, ht⟩
  · subst hn
    refine ⟨none, 0, e, fun i x hx => ?_⟩
    have := (List.getElem?_eq_some_iff.1 hx).1
    omega
  · refine ⟨_, cap, e, fun i x hx => ⟨g, rfl, ?_⟩⟩
    rw [← ht, List.getElem?_take] at hx
    split at hx
    · unfold World.cell?
      simp only [hb, Nat.zero_add]
      simpa using hx
    · cases hx

variable [Shift] [Payload]
set_option maxHeartbeats 1000000 in
theorem round8_mj (hP : OkP Try.prog S1 V1) {D : In8} (hD : Ok8 D) {post : Value → World → Prop} {σ : Sj} {k : List Item} {cs : List Frame} (t : Array Value) (w : World) (j : Nat) (out : Value) (xs : List Value) (hj : j < D.n) (h : St8 D t w j out xs)
    (Kr : ∀ (t' : Array Value) (w' : World), t'.size = 46 → t'[4]? = some (.slice none 0 0) → t'[5]? = some (.int .i64 (firstE (spE D.ts D.ws))) → firstE (spE D.ts D.ws) ≠ 0 → Kx D.W0 w' → MJ Try.prog wgL S1 V1 (.main post σ) (bareR 8 t') [] [] cs w')
    (K : ∀ (t' : Array Value) (w' : World) (out' : Value) (xs' : List Value), St8 D t' w' (j + 1) out' xs' → MJ Try.prog wgL S1 V1 (.main post σ) (bare 8 t') [] k cs w') :
    MJ Try.prog wgL S1 V1 (.main post σ) (bare 8 t) [] (.code (.seq (.block 1 in8) (.region 11 (opsR 11) false)) :: k) cs w := by
  have hts : D.ts.length = D.n := hD.ht
  obtain ⟨ba, oa, hpa, hx⟩ : ∃ ba oa, D.pa = some ⟨ba, oa, none⟩ ∧ D.W0.cell? ⟨ba, oa + j, none⟩ = some (.int .i64 (D.ts.getD j 0)) := by
    rcases hD.seg with ⟨e, _⟩ | ⟨b, off, c, hv, hc⟩
    · rw [e] at hts; simp at hts; omega
    · injection hv with e1 e2 e3
      exact ⟨b, off, e1, hc j (by omega)⟩
  obtain ⟨bw, ow, vi, hpb, hvi, hsg, hly⟩ := hD.tab.at_ j (by rw [hD.hw]; exact hj)
  refine MJ.seq (MJ.ctl (k1 := .code in8 :: .inBlock 1 :: .code (.region 11 (opsR 11) false) :: k) (fun _ _ _ _ _ _ => stepG_block) ?_)
  rw [in8_is]
  refine MJ.seq (MJ.reg (r := [0, 1]) (by rw [sizeR6]; rfl) ?_)
  refine MJ.mv h.sl (o := (opsR 6)[0]'(by rw [sizeR6]; decide)) 22 24 (.int .i64 j) rfl (.inl rfl) rfl rfl (by omega) (by simp [In8.sl]) fun t1 U1 hS1 => ?_
  refine MJ.mv hS1 (o := (opsR 6)[1]'(by rw [sizeR6]; decide)) 24 7 (.int .i64 j) rfl (.inr rfl) rfl rfl (by omega) (by simp [setS]) fun t2 U2 hS2 => MJ.regE ?_
  obtain ⟨w2, hw2⟩ : ∃ w2, w2 = onT (onT w U1) U2 := ⟨_, rfl⟩
  have k2 : Kx w w2 := Kx.heap (by rw [hw2]; rfl)
  rw [← hw2]
  clear hw2
  have kc2 := (h.kx.trans k2).kc
  refine MJ.seq ?_
  refine pair_mj hP pair8 hS2.size (by decide) ba oa D.n D.ca bw ow D.n D.cb j (D.ts.getD j 0) vi (hS2.get (by rw [← hpa]; simp [setS, In8.sl])) (hS2.get (by simp [setS])) (hS2.get (by rw [← hpb]; simp [setS, In8.sl])) hj hj (kc2.cell _ _ hx) (kc2.cell _ _ hvi)
    (.int .i64 (Bo.Plain.splitE (D.ts.getD j 0) (D.ws.getD j []) : Nat)) (fun r w' => OwnI 0 w' r (Bo.Plain.splitV (D.ts.getD j 0) (D.ws.getD j []))) (fun r a b hh hr => hr.heap hh) (fun w' k' => ?_) fun t3 w3 r z3 o3 e8 e9 hr k3 => ?_
  · have kk := kc2.trans k'.kc
    refine (rsplit_own vi (D.ws.getD j []) (D.ts.getD j 0) (hD.big j) w' (hsg.kc kk) (hly.mono kk.size)).mono ?_
    rintro e w'' ⟨r, rfl, hO, hb⟩
    exact ⟨r, rfl, hO.zero, Kx.below hb⟩
  have hS3 : Sl t3 46 (((8, r) :: (9, .int .i64 (Bo.Plain.splitE (D.ts.getD j 0) (D.ws.getD j []) : Nat)) :: D.sl j out)) := by
    refine ⟨z3, fun p hp => ?_⟩
    simp only [In8.sl, List.mem_cons, List.not_mem_nil, or_false] at hp
    rcases hp with rfl | rfl | rfl | rfl | rfl | rfl | rfl | rfl
    · exact e8
    · exact e9
    · exact (o3 0 (by decide)).trans (hS2.get (by simp [setS, In8.sl]))
    · exact (o3 1 (by decide)).trans (hS2.get (by simp [setS, In8.sl]))
    · exact (o3 6 (by decide)).trans (hS2.get (by simp [setS, In8.sl]))
    · exact (o3 20 (by decide)).trans (hS2.get (by simp [setS, In8.sl]))
    · exact (o3 21 (by decide)).trans (hS2.get (by simp [setS, In8.sl]))
    · exact (o3 22 (by decide)).trans (hS2.get (by simp [setS, In8.sl]))
  have k03 : Kx w w3 := k2.trans k3
  clear o3 e8 e9 hS2 hS1 kc2
  have hE : (spE D.ts D.ws).getD j 0 = (Bo.Plain.splitE (D.ts.getD j 0) (D.ws.getD j []) : Nat) := spE_at (by omega)
  have hR : (spR D.ts D.ws).getD j [] = Bo.Plain.splitV (D.ts.getD j 0) (D.ws.getD j []) := spR_at (by omega)
  rw [← hR] at hr
  rw [← hE] at hS3
  obtain ⟨E, hEj⟩ : ∃ E, (spE D.ts D.ws).getD j 0 = E := ⟨_, rfl⟩
  rw [hEj] at hS3
  clear hE
  refine MJ.seq (MJ.seq (MJ.reg (r := [0, 1]) (by rw [sizeR8]; rfl) ?_))
  refine MJ.mv hS3 (o := (opsR 8)[0]'(by rw [sizeR8]; decide)) 9 37 (.int .i64 E) rfl (.inl rfl) rfl rfl (by omega) (by simp) fun t4 U4 hS4 => ?_
  refine MJ.vl hS4 (o := (opsR 8)[1]'(by rw [sizeR8]; decide)) 38 (.bool (E != 0)) rfl rfl rfl (by omega) (by kernel_rfl) (fun T => run_neq24 (x := .tmp 37) (y := .const (.int .i64 0)) rfl _ 0 (hS4.ev (by simp [setS])) rfl) fun t5 U5 hS5 => MJ.regE ?_
  obtain ⟨w5, hw5⟩ : ∃ w5, w5 = onT (onT w3 U4) U5 := ⟨_, rfl⟩
  have k05 : Kx w w5 := k03.trans (Kx.heap (by rw [hw5]; rfl))
  have hr5 : OwnI 0 w5 r ((spR D.ts D.ws).getD j []) := hr.heap (by rw [hw5]; rfl)
  rw [← hw5]
  clear hw5 hr k03
  refine MJ.cond (q := E != 0) rfl (hS5.ev (by simp [setS])) ?_
  cases hq : E != 0 with
  | true =>
    have hq' : E ≠ 0 := by simpa using hq
    have hF : firstE (spE D.ts D.ws) = E := by
      rw [← hEj]
      exact firstE_hit (k := j) (by rw [spE_len]; omega) (by rw [hEj]; exact hq) h.pre
    refine MJ.seq (MJ.reg (r := [0, 1, 2]) (by rw [sizeR9]; rfl) ?_)
    refine MJ.mv hS5 (o := (opsR 9)[0]'(by rw [sizeR9]; decide)) 9 39 (.int .i64 E) rfl (.inl rfl) rfl rfl (by omega) (by simp [setS]) fun t6 U6 hS6 => ?_
    refine MJ.cst hS6 (o := (opsR 9)[1]'(by rw [sizeR9]; decide)) 4 (.slice none 0 0) rfl (.inr rfl) rfl rfl (by omega) rfl fun t7 U7 hS7 => ?_
    refine MJ.mv hS7 (o := (opsR 9)[2]'(by rw [sizeR9]; decide)) 39 5 (.int .i64 E) rfl (.inr rfl) rfl rfl (by omega) (by simp [setS]) fun t8 U8 hS8 => MJ.regE ?_
    refine MJ.toret (.inr ⟨_, rfl⟩) ?_
    exact Kr t8 _ hS8.size (hS8.get (by simp [setS])) (by rw [hF]; exact hS8.get (by simp [setS])) (by rw [hF]; exact hq') ((h.kx.trans k05).trans (Kx.heap rfl))
  | false =>
    obtain ⟨ra, rn, rc, rfl⟩ := hr5.slice
    refine MJ.ctl (k1 := .code (.region 10 (opsR 10) false) :: .inBlock 1 :: .code (.region 11 (opsR 11) false) :: k) (fun _ _ _ _ _ _ => stepG_skip) ?_
    refine MJ.reg (r := [0, 1, 2, 3, 4]) (by rw [sizeR10]; rfl) ?_
    refine MJ.mv hS5 (o := (opsR 10)[0]'(by rw [sizeR10]; decide)) 6 40 out rfl (.inl rfl) rfl rfl (by omega) (by simp [setS, In8.sl]) fun t6 U6 hS6 => ?_
    refine MJ.mv hS6 (o := (opsR 10)[1]'(by rw [sizeR10]; decide)) 8 41 (.slice ra rn rc) rfl (.inl rfl) rfl rfl (by omega) (by simp [setS]) fun t7 U7 hS7 => ?_
    refine MJ.ow hS7 (o := (opsR 10)[2]'(by rw [sizeR10]; decide)) 42 rfl rfl rfl (by omega) (by kernel_rfl) fun T => ⟨_, _, run_build1 (x := .tmp 41) rfl ra rn rc (hS7.ev (by simp [setS])), fun t8 hS8 => ?_⟩
    obtain ⟨wy, hwy⟩ : ∃ wy, wy = retape (onT (onT w5 U6) U7) T := ⟨_, rfl⟩
    have k0y : Kx w wy := k05.trans (Kx.heap (by rw [hwy]; rfl))
    have hry : OwnI 0 wy (.slice ra rn rc) ((spR D.ts D.ws).getD j []) := hr5.heap (by rw [hwy]; rfl)
    rw [← hwy] at hS8 ⊢
    clear hwy
    obtain ⟨wz, hwz⟩ : ∃ wz, wz = wy.alloc (.cells #[.slice ra rn rc] 22 (0, 0)) := ⟨_, rfl⟩
    have kyz : Kx wy wz := by rw [hwz]; exact Kx.below ((Below.refl _ wy).alloc (Nat.le_refl _) _)
    have cz : wz.cell? ⟨wy.heap.size, 0, none⟩ = some (.slice ra rn rc) := by rw [hwz]; exact al_cell wy _ _ _ 0
    rw [← hwz]
    clear hwz
    obtain ⟨ti, hti, htz, hts1, htb⟩ : ∃ i, Try.prog.info? 22 = some i ∧ i.zero = some (.slice none 0 0) ∧ i.size = 1 ∧ i.bytes = 24 := by
      obtain ⟨i, hi, he⟩ := Option.map_eq_some_iff.1 info22'
      simp only [Prod.mk.injEq] at he
      exact ⟨i, hi, he.1, he.2.1, he.2.2⟩
    refine MJ.ow hS8 (o := (opsR 10)[3]'(by rw [sizeR10]; decide)) 43 rfl rfl rfl (by omega) (by kernel_rfl) fun T => ?_
    have kzz : Kx w (retape wz T) := (k0y.trans kyz).trans (Kx.heap rfl)
    have hO : (retape wz T).ownsRow D.W0.heap.size 22 1 out j xs := owns_kx h.own kzz
    obtain ⟨v', w', g1, g2, g3, g4⟩ := run_app (P := Try.prog) (e := Act.eval ⟨t8, []⟩) (w := retape wz T) (o := (opsR 10)[3]'(by rw [sizeR10]; decide)) (x := .tmp 40) (y := .tmp 42) (ty := 23) (el := 22) (bytes := 24) rfl Try.underlying23 hti htz hts1 htb rfl (by omega) D.W0.heap.size out j xs hO
      ⟨wy.heap.size, 0, none⟩ 1 1 [.slice ra rn rc] rfl (fun q u hu => by
        have hq0 : q = 0 := by have := (List.getElem?_eq_some_iff.1 hu).1; simp at this; omega
        subst hq0
        simp only [List.getElem?_cons_zero, Option.some.injEq] at hu
        subst hu
        exact cz) (fun u hu => by simp at hu; subst hu; rfl) (by have := hD.hn; omega) (by have := (h.kx.trans kzz).size; exact this) (hS8.ev (by simp [setS])) (hS8.ev (by simp [setS]))
    refine ⟨v', w', g1, fun t9 hS9 => ?_⟩
    have hlx : xs.length = j := by have := h.own.1; omega
    have hblk : ∀ g, out.ownBlock = some g → D.W0.heap.size ≤ g ∧ ∃ c, (retape wz T).heap[g]? = some (.cells c 22 (0, 0)) := fun g hg => by
      rcases hO.2 with ⟨e, _⟩ | ⟨g', cap, cur, e, hB, hb, _⟩
      · rw [e] at hg; cases hg
      · rw [e] at hg
        have e' : g' = g := by simpa [Value.ownBlock] using hg
        subst e'
        exact ⟨hB, cur, hb⟩
    have kx' : Kx D.W0 w' := ⟨Nat.le_trans (h.kx.trans kzz).size g3.size, fun a ha => by
      rw [g3.block a (Nat.lt_of_lt_of_le ha (h.kx.trans kzz).size) fun e => by have := (hblk a e.symm).1; omega]
      exact (h.kx.trans kzz).block a ha⟩
    have rows' : ∀ i, i < j + 1 → ∃ v, (xs ++ [Value.slice ra rn rc])[i]? = some v ∧ OwnI 0 w' v ((spR D.ts D.ws).getD i []) := fun i hi => by
      by_cases e : i = j
      · subst e
        refine ⟨_, by rw [List.getElem?_append_right (by omega), hlx, Nat.sub_self]; rfl, ?_⟩
        exact ((hry.kx kyz).heap (w' := retape wz T) rfl).grown g3 fun g hg => (hblk g hg).2
      · obtain ⟨v, q1, q2⟩ := h.rows i (by omega)
        exact ⟨v, by rw [List.getElem?_append_left (by omega)]; exact q1, (q2.kx kzz).grown g3 fun g hg => (hblk g hg).2⟩
    refine MJ.mv hS9 (o := (opsR 10)[4]'(by rw [sizeR10]; decide)) 43 6 v' rfl (.inr rfl) rfl rfl (by omega) (by simp [setS]) fun tA UA hSA => MJ.regE ?_
    refine MJ.ctl (k1 := .code (.region 11 (opsR 11) false) :: k) (fun _ _ _ _ _ _ => stepG_inBlock) ?_
    refine MJ.reg (r := [0, 1]) (by rw [sizeR11]; rfl) ?_
    refine MJ.vl hSA (o := (opsR 11)[0]'(by rw [sizeR11]; decide)) 44 (.int .i64 (j + 1 : Nat)) rfl rfl rfl (by omega) (by kernel_rfl) (fun T => ?_) fun tB UB hSB => ?_
    · have := run_addi (P := Try.prog) (e := Act.eval ⟨tA, []⟩) (w := retape (onT w' UA) T) (o := (opsR 11)[0]'(by rw [sizeR11]; decide)) (x := .tmp 22) (y := .const (.int .i64 1)) rfl j 1 (hSA.ev (by simp [setS, In8.sl])) rfl (by rw [IntKind.wrap_i64]; have := hD.hn; omega)
      rw [this]
      simp
    refine MJ.mv hSB (o := (opsR 11)[1]'(by rw [sizeR11]; decide)) 44 22 (.int .i64 (j + 1 : Nat)) rfl (.inl rfl) rfl rfl (by omega) (by simp [setS]) fun tC UC hSC => MJ.regE ?_
    refine K tC _ v' _ ⟨hSC.sub (by simp [setS, In8.sl]), kx'.trans (Kx.heap rfl), owns_kx g2 (Kx.heap rfl), fun i hi => ?_, fun i hi => ?_⟩
    · obtain ⟨v, q1, q2⟩ := rows' i hi
      exact ⟨v, q1, q2.heap rfl⟩
    · by_cases e : i = j
      · subst e; rw [hEj]; exact hq
      · exact h.pre i (by omega)
end Go.Proofs.Ytcobehkadhcjiaa

/-
  The document's CrewSplits, whole.
-/
namespace Go.Proofs.Ytcobehkadhcjiaa
open Go Go.Conc Go.ConcN Go.Conc.Lib Go.RowKit Go.Shelf
open Go.ConcR (Payload)
variable [Shift] [Payload]

theorem loop8_mj (hP : OkP Try.prog S1 V1) {D : In8} (hD : Ok8 D) {post : Value → World → Prop} {σ : Sj} {k : List Item} {cs : List Frame}
    (Kr : ∀ (t' : Array Value) (w' : World), t'.size = 46 → t'[4]? = some (.slice none 0 0) → t'[5]? = some (.int .i64 (firstE (spE D.ts D.ws))) → firstE (spE D.ts D.ws) ≠ 0 → Kx D.W0 w' → MJ Try.prog wgL S1 V1 (.main post σ) (bareR 8 t') [] [] cs w') :
    ∀ (r : Nat) (t : Array Value) (w : World) (j : Nat) (out : Value) (xs : List Value), j + r = D.n → St8 D t w j out xs → (∀ (t' : Array Value) (w' : World) (out' : Value) (xs' : List Value), St8 D t' w' D.n out' xs' → MJ Try.prog wgL S1 V1 (.main post σ) (bare 8 t') [] k cs w') →
    MJ Try.prog wgL S1 V1 (.main post σ) (bare 8 t) [] (.code rn8 :: .inLoop rn8 :: .inBlock 0 :: k) cs w := by
  have head : ∀ (t : Array Value) (w : World) (j : Nat) (out : Value) (xs : List Value) (k' : List Item), St8 D t w j out xs → (∀ (t' : Array Value) U, Sl t' 46 (setS 23 (.bool (decide ((j : Int) < (D.n : Int)))) (D.sl j out)) → MJ Try.prog wgL S1 V1 (.main post σ) (bare 8 t') [] k' cs (onT w U)) →
      MJ Try.prog wgL S1 V1 (.main post σ) (bare 8 t) [] (.code (.region 5 (opsR 5) false) :: k') cs w := fun t w j out xs k' h K => by
    refine MJ.reg (r := [0]) (by rw [sizeR5]; rfl) ?_
    exact MJ.vl h.sl (o := (opsR 5)[0]'(by rw [sizeR5]; decide)) 23 (.bool (decide ((j : Int) < (D.n : Int)))) rfl rfl rfl (by omega) (by kernel_rfl) (fun T => run_lss rfl j D.n (h.sl.ev (by simp [In8.sl])) (h.sl.ev (by simp [In8.sl]))) fun t1 U1 hS1 => MJ.regE (K t1 U1 hS1)
  have stay : ∀ {t t' : Array Value} {w : World} {j : Nat} {out : Value} {xs : List Value} {U : Tape'}, St8 D t w j out xs → Sl t' 46 (setS 23 (.bool (decide ((j : Int) < (D.n : Int)))) (D.sl j out)) → St8 D t' (onT w U) j out xs := fun h hS =>
    ⟨hS.sub (by simp [setS, In8.sl]), h.kx.trans (Kx.heap rfl), owns_kx h.own (Kx.heap rfl), fun i hi => by
      obtain ⟨v, q1, q2⟩ := h.rows i hi
      exact ⟨v, q1, q2.heap rfl⟩, h.pre⟩
  intro r
  induction r with
  | zero =>
    intro t w j out xs hr h K
    have hj : j = D.n := by omega
    subst hj
    rw [rn8_is]
    refine MJ.seq (head t w _ _ _ _ h fun t1 U1 hS1 => ?_)
    refine MJ.seq (MJ.cond (q := decide ((D.n : Int) < (D.n : Int))) rfl (hS1.ev (by simp [setS])) ?_)
    rw [decide_eq_false (by omega)]
    refine MJ.ctl (k1 := k) (fun _ _ _ _ _ _ => stepG_exit rfl) ?_
    exact K _ _ _ _ (stay h hS1)
  | succ r ih =>
    intro t w j out xs hr h K
    rw [rn8_is]
    refine MJ.seq (head t w _ _ _ _ h fun t1 U1 hS1 => ?_)
    refine MJ.seq (MJ.cond (q := decide ((j : Int) < (D.n : Int))) rfl (hS1.ev (by simp [setS])) ?_)
    rw [decide_eq_true (by omega)]
    refine MJ.ctl (k1 := .code (.seq (.block 1 in8) (.region 11 (opsR 11) false)) :: .inLoop rn8 :: .inBlock 0 :: k) (fun _ _ _ _ _ _ => stepG_skip) ?_
    refine round8_mj hP hD t1 _ j out xs (by omega) (stay h hS1) Kr fun t2 w2 out2 xs2 h2 => ?_
    refine MJ.ctl (k1 := .code rn8 :: .inLoop rn8 :: .inBlock 0 :: k) (fun _ _ _ _ _ _ => stepG_inLoop) ?_
    exact ih t2 w2 (j + 1) out2 xs2 (by omega) h2 K

theorem ref_mj (hP : OkP Try.prog S1 V1) {post : Value → World → Prop} {σ : Sj} {cs : List Frame} (pa : Option Addr) (n ca : Nat) (pb : Option Addr) (m cb : Nat) (ts : List Int) (ws : List (List Int)) (w : World) (hts : ts.length = n) (hws : ws.length = m) (hseg : Seg w (.slice pa n ca) ts) (htab : TabW w pb ws)
    (hbig : ∀ j, (ws.getD j []).length ≤ 9223372036854775807)
    (K : ∀ (t' : Array Value) (w' : World) (r : Value), t'.size = 46 → t'[4]? = some r → t'[5]? = some (.int .i64 (splE ts ws)) → OutD ts ws w' r → Kx w w' → MJ Try.prog wgL S1 V1 (.main post σ) (bareR 8 t') [] [] cs w') :
    MJ Try.prog wgL S1 V1 (.main post σ) (bare 8 #[.slice pa n ca, .slice pb m cb, undef, undef, undef, undef, undef, undef, undef, undef, undef, undef, undef, undef, undef, undef, undef, undef, undef, undef, undef, undef, undef, undef, undef, undef, undef, undef, undef, undef, undef, undef, undef, undef, undef, undef, undef, undef, undef, undef, undef, undef, undef, undef, undef, undef]) [] [.code body8] cs w := by
  rw [body8_is]
  refine MJ.seq (ref0_mj hP (.slice pa n ca) (.slice pb m cb) w fun U1 => ?_)
  refine MJ.seq (MJ.seq (ref1_mj hP pa n ca pb m cb _ fun t2 U2 hS2 => ?_))
  obtain ⟨w2, hw2⟩ : ∃ w2, w2 = onT (onT w U1) U2 := ⟨_, rfl⟩
  have h2 : w2.heap = w.heap := by rw [hw2]; rfl
  have k2 : Kx w w2 := Kx.heap h2
  rw [← hw2]
  clear hw2
  refine MJ.cond (q := decide (n ≠ m ∨ 200 < n)) rfl (hS2.ev (by simp)) ?_
  by_cases hq : n ≠ m ∨ 200 < n
  · rw [decide_eq_true hq]
    have hE : splE ts ws = 1 := by
      unfold splE
      rw [hts, hws, if_pos hq]
    refine MJ.seq ?_
    refine MJ.reg (r := [0, 1]) (by rw [sizeR2]; rfl) ?_
    refine MJ.cst hS2 (o := (opsR 2)[0]'(by rw [sizeR2]; decide)) 4 (.slice none 0 0) rfl (.inr rfl) rfl rfl (by omega) rfl fun t3 U3 hS3 => ?_
    refine MJ.cst hS3 (o := (opsR 2)[1]'(by rw [sizeR2]; decide)) 5 (.int .i64 1) rfl (.inr rfl) rfl rfl (by omega) rfl fun t4 U4 hS4 => MJ.regE ?_
    refine MJ.toret (.inr ⟨_, rfl⟩) ?_
    exact K t4 _ (.slice none 0 0) hS4.size (hS4.get (by simp [setS])) (by rw [hE]; exact hS4.get (by simp [setS])) ⟨fun _ => rfl, fun e => by rw [hE] at e; cases e⟩ (k2.trans (Kx.heap rfl))
  · rw [decide_eq_false hq]
    have hnm : n = m := Classical.byContradiction fun h => hq (.inl h)
    have h200 : n ≤ 200 := by omega
    subst hnm
    have hE : splE ts ws = firstE (spE ts ws) := by
      unfold splE
      rw [hts, hws, if_neg hq]
    refine MJ.ctl (k1 := .code (.seq (.region 3 (opsR 3) false) (.seq (.seq (.region 4 (opsR 4) false) (.block 0 (.loop rn8))) (.seq (.region 12 (opsR 12) false) .ret))) :: []) (fun _ _ _ _ _ _ => stepG_skip) ?_
    refine MJ.seq (MJ.reg (r := [0]) (by rw [sizeR3]; rfl) ?_)
    refine MJ.cst hS2 (o := (opsR 3)[0]'(by rw [sizeR3]; decide)) 6 (.slice none 0 0) rfl (.inr rfl) rfl rfl (by omega) rfl fun t3 U3 hS3 => MJ.regE ?_
    refine MJ.seq (MJ.seq (MJ.reg (r := [0, 1, 2]) (by rw [sizeR4]; rfl) ?_))
    refine MJ.mv hS3 (o := (opsR 4)[0]'(by rw [sizeR4]; decide)) 0 20 (.slice pa n ca) rfl (.inl rfl) rfl rfl (by omega) (by simp [setS]) fun t4 U4 hS4 => ?_
    refine MJ.vl hS4 (o := (opsR 4)[1]'(by rw [sizeR4]; decide)) 21 (.int .i64 n) rfl rfl rfl (by omega) (by kernel_rfl) (fun T => run_len (x := .tmp 20) (ty := 22) (el := 3) rfl Try.underlying22 pa n ca (hS4.ev (by simp [setS]))) fun t5 U5 hS5 => ?_
    refine MJ.cst hS5 (o := (opsR 4)[2]'(by rw [sizeR4]; decide)) 22 (.int .i64 0) rfl (.inl rfl) rfl rfl (by omega) rfl fun t6 U6 hS6 => MJ.regE ?_
    refine MJ.ctl (k1 := .code (.loop rn8) :: .inBlock 0 :: .code (.seq (.region 12 (opsR 12) false) .ret) :: []) (fun _ _ _ _ _ _ => stepG_block) ?_
    refine MJ.ctl (k1 := .code rn8 :: .inLoop rn8 :: .inBlock 0 :: .code (.seq (.region 12 (opsR 12) false) .ret) :: []) (fun _ _ _ _ _ _ => stepG_loop) ?_
    obtain ⟨w6, hw6⟩ : ∃ w6, w6 = onT (onT (onT (onT w2 U3) U4) U5) U6 := ⟨_, rfl⟩
    have k6 : Kx w w6 := k2.trans (Kx.heap (by rw [hw6]; rfl))
    rw [← hw6]
    clear hw6
    let D : In8 := ⟨w, pa, n, ca, pb, cb, ts, ws⟩
    have hD : Ok8 D := ⟨hts, hws, h200, hseg, htab, hbig⟩
    refine loop8_mj hP hD (k := .code (.seq (.region 12 (opsR 12) false) .ret) :: []) (fun t' w' z4 e4 e5 hne kk => ?_) n t6 w6 0 (.slice none 0 0) [] (by show 0 + n = n; omega)
      ⟨hS6.sub (by simp [setS, In8.sl, D]), k6, World.ownsRow_nil _ _ _ _, fun i hi => by omega, fun i hi => by omega⟩ fun t7 w7 out xs h7 => ?_
    · exact K t' w' (.slice none 0 0) z4 e4 (by rw [hE]; exact e5) ⟨fun _ => rfl, fun e => absurd (by rw [← hE]; exact e) hne⟩ kk
    have hF : splE ts ws = 0 := by
      rw [hE]
      exact firstE_miss fun i hi => h7.pre i (by rw [spE_len, hts] at hi; exact hi)
    refine MJ.seq (MJ.reg (r := [0, 1, 2]) (by rw [sizeR12]; rfl) ?_)
    refine MJ.mv h7.sl (o := (opsR 12)[0]'(by rw [sizeR12]; decide)) 6 45 out rfl (.inl rfl) rfl rfl (by omega) (by simp [In8.sl]) fun t8 U8 hS8 => ?_
    refine MJ.mv hS8 (o := (opsR 12)[1]'(by rw [sizeR12]; decide)) 45 4 out rfl (.inr rfl) rfl rfl (by omega) (by simp [setS]) fun t9 U9 hS9 => ?_
    refine MJ.cst hS9 (o := (opsR 12)[2]'(by rw [sizeR12]; decide)) 5 (.int .i64 0) rfl (.inr rfl) rfl rfl (by omega) rfl fun tA UA hSA => MJ.regE ?_
    refine MJ.toret (.inr ⟨_, rfl⟩) ?_
    have kk : Kx w7 (onT (onT (onT w7 U8) U9) UA) := Kx.heap rfl
    refine K tA _ out hSA.size (hSA.get (by simp [setS])) (by rw [hF]; exact hSA.get (by simp [setS])) ⟨fun e => absurd hF e, fun _ => ?_⟩ (h7.kx.trans kk)
    obtain ⟨p, c, rfl, hc⟩ := owns_form h7.own
    refine ⟨p, c, by rw [hts], ⟨fun i hi => ?_⟩⟩
    rw [spR_len, hts] at hi
    obtain ⟨v, q1, q2⟩ := h7.rows i hi
    obtain ⟨g, e, hcell⟩ := hc i v q1
    have q3 := q2.kx kk
    exact ⟨g, 0, v, e, kk.kc.cell _ _ hcell, q3.seg, q3.lies⟩
end Go.Proofs.Ytcobehkadhcjiaa
