/-
  Goroutines among others: part 18 of what the law's own text rests on.
-/
import Derived.Test.YtcobehkadhcjiaaCb17
import Derived.Maps.AppendAt
/-
  crew.mergePairs: the row of channels grows.
-/
namespace Go.Proofs.Ytcobehkadhcjiaa
open Go Go.Conc Go.RowKit Go.Sort

theorem info95 : ∃ i, Try.prog.info? 95 = some i ∧ i.size = 1 ∧ i.bytes = 8 ∧ i.zero = some (.chan none) := by
  have h1 : (Try.prog.info? 95).map (fun i => (i.size, i.bytes)) = some (1, 8) := by kernel_rfl
  have h2 : (Try.prog.info? 95).bind (fun i => i.zero) = some (.chan none) := by kernel_rfl
  cases hi : Try.prog.info? 95 with
  | none => rw [hi] at h1; cases h1
  | some i =>
    rw [hi] at h1 h2
    simp only [Option.map_some, Option.some.injEq, Prod.mk.injEq, Option.bind_some] at h1 h2
    exact ⟨i, rfl, h1.1, h1.2, h2⟩
theorem app7 (e : Act) (w : World) (base g c : Nat) (v : Value) (xs : List Value) (h1 : e.eval (.tmp 29) = v) (h2 : e.eval (.tmp 31) = .slice (some ⟨g, 0, none⟩) 1 1) (hg : w.cell? ⟨g, 0, none⟩ = some (.chan (some c))) (hO : w.ownsRow base 95 1 v xs.length xs) (hb : base ≤ w.heap.size) (hn : xs.length ≤ 100000) :
    ∃ v' w', (execOp e.eval (ops7[3]'(by rw [ops7_size]; decide))).run Try.prog w = .ok (.value v') w' ∧ w'.ownsRow base 95 1 v' (xs.length + 1) (xs ++ [.chan (some c)]) ∧ w.grownBy w' v.ownBlock ∧ (v'.ownBlock = v.ownBlock ∨ v'.ownBlock = some w.heap.size) := by
  have ho : (ops7[3]'(by rw [ops7_size]; decide)).op = Op.call { callee := .builtin .append, args := #[.tmp 29, .tmp 31], argTypes := #[94, 94] } := rfl
  obtain ⟨i, hi, hs, hby, hz⟩ := info95
  obtain ⟨v', w', r1, r2, r3, _, r5⟩ := run_append_own_at (P := Try.prog) (w := w) base 94 (ops7[3]'(by rw [ops7_size]; decide)).type 95 i (.chan none) 1 8 Try.underlying94 hi hz hs hby rfl (by omega) v xs.length xs hO ⟨g, 0, none⟩ 1 1 [.chan (some c)] rfl
    (fun j u hj => by
      cases j with
      | zero => simp at hj; subst hj; exact hg
      | succ j => simp at hj) (fun u hu => by simp at hu; subst hu; rfl) (by unfold maxLen; omega) (by omega) hb
  refine ⟨v', w', ?_, r2, r3, r5⟩
  unfold execOp
  rw [ho]
  simp [resolve, invoke, builtin, h1, h2, r1]
end Go.Proofs.Ytcobehkadhcjiaa

/-
  Lists of entries below a bound: what is written above it does not turn them.
-/
namespace Go.Proofs.Ytcobehkadhcjiaa
open Go Go.Conc Go.RowKit Go.Sort

structure KeepB (B : Nat) (w w1 : World) : Prop where
  size : w.heap.size ≤ w1.heap.size
  cell : ∀ a : Addr, a.block < B → w1.cell? a = w.cell? a
  uf : Uf B w w1
theorem KeepB.refl (B : Nat) (w : World) : KeepB B w w := ⟨Nat.le_refl _, fun _ _ => rfl, fun _ _ => rfl⟩
theorem KeepB.trans {B : Nat} {a b c : World} (h : KeepB B a b) (k : KeepB B b c) : KeepB B a c := ⟨Nat.le_trans h.size k.size, fun x hx => (k.cell x hx).trans (h.cell x hx), h.uf.trans k.uf⟩
theorem Keeps.toB {B : Nat} {w w1 : World} (h : Keeps w w1) (hB : B ≤ w.heap.size) : KeepB B w w1 := ⟨h.size, fun a ha => h.cell a (Nat.lt_of_lt_of_le ha hB), fun x hx => h.uf x (Nat.lt_of_lt_of_le hx hB)⟩
theorem KeepB.grown {B : Nat} {w w1 : World} {row : Option Nat} (h : w.grownBy w1 row) (hB : B ≤ w.heap.size) (hr : ∀ x, row = some x → B ≤ x) : KeepB B w w1 := ⟨h.size, fun a ha => by
  unfold World.cell?
  rw [h.block a.block (Nat.lt_of_lt_of_le ha hB) fun e => by have := hr _ e.symm; omega], fun x hx => by
  rw [h.block x (Nat.lt_of_lt_of_le hx hB) fun e => by have := hr _ e.symm; omega]⟩
/-- A block as they were. -/
theorem Ex.grown {B : Nat} {w w1 : World} {row : Option Nat} (h : w.grownBy w1 row) (hB : B ≤ w.heap.size) (hr : ∀ x, row = some x → B ≤ x) : Ex B w w1 := fun x hx =>
  h.block x (Nat.lt_of_lt_of_le hx hB) fun e => by have := hr _ e.symm; omega

/-- One list of entries, below B. -/
structure EnB (B : Nat) (w : World) (v : Value) (l : List Plain.En) : Prop where
  seg : SegN w v l
  slv : Slv B v
theorem EnB.lies {B : Nat} {w : World} {v : Value} {l : List Plain.En} (h : EnB B w v l) : Lies B v := lies_of_slv h.slv
theorem EnB.keep {B : Nat} {w w1 : World} {v : Value} {l : List Plain.En} (s : EnB B w v l) (h : KeepB B w w1) : EnB B w1 v l := by
  refine ⟨?_, s.slv⟩
  rcases s.seg with ⟨e, p, c, k⟩ | ⟨b, off, c, e, hc, k⟩
  · exact .inl ⟨e, p, c, k⟩
  · have hb : b < B := by have := s.slv; rw [e] at this; exact this
    refine .inr ⟨b, off, c, e, hc, fun j hj => ?_⟩
    obtain ⟨k0, k1, k2, k3, k4⟩ := k j hj
    exact ⟨by rw [h.cell _ hb]; exact k0, by rw [h.cell _ hb]; exact k1, by rw [h.cell _ hb]; exact k2, by rw [h.cell _ hb]; exact k3, by rw [h.cell _ hb]; exact k4⟩
theorem EnS.toB {w : World} {v : Value} {l : List Plain.En} (h : EnS w v l) : EnB w.heap.size w v l := ⟨h.seg, h.slv⟩
theorem EnB.up {B B' : Nat} {w : World} {v : Value} {l : List Plain.En} (h : EnB B w v l) (hB : B ≤ B') : EnB B' w v l := ⟨h.seg, h.slv.mono hB⟩
/-- Lists of entries, below B. -/
structure LsB (B : Nat) (w : World) (b off n : Nat) (ls : List (List Plain.En)) : Prop where
  len : ls.length = n
  lt : b < B
  at_ : ∀ j, j < n → ∃ v, w.cell? ⟨b, off + j, none⟩ = some v ∧ EnB B w v (ls.getD j [])
theorem LsB.keep {B : Nat} {w w1 : World} {b off n : Nat} {ls : List (List Plain.En)} (s : LsB B w b off n ls) (h : KeepB B w w1) : LsB B w1 b off n ls := ⟨s.len, s.lt, fun j hj => by
  obtain ⟨v, k1, k2⟩ := s.at_ j hj
  exact ⟨v, by rw [h.cell _ s.lt]; exact k1, k2.keep h⟩⟩

/-- The slice v holds the entries l, lies in memory, in a block of entries. -/
structure HeldN (w : World) (v : Value) (l : List Plain.En) : Prop where
  seg : SegN w v l
  slv : Slv w.heap.size v
  ty : TyE w v
theorem HeldN.lies {w : World} {v : Value} {l : List Plain.En} (h : HeldN w v l) : Lies w.heap.size v := lies_of_slv h.slv
theorem HeldN.grow {w w' : World} {v : Value} {l : List Plain.En} (h : HeldN w v l) (b : Below w.heap.size w w') : HeldN w' v l := ⟨h.seg.below b h.lies, h.slv.mono b.size, h.ty.below b⟩
theorem heldN_nil (w : World) : HeldN w (.slice none 0 0) [] := ⟨SegN.nil w, trivial, TyE.nil _ _ _⟩
end Go.Proofs.Ytcobehkadhcjiaa

/-
  crew.mergePairs: region 7: the row of channels grows.
-/
namespace Go.Proofs.Ytcobehkadhcjiaa
open Go Go.Conc Go.RowKit Go.Sort

theorem owns_old {w w1 : World} {base e size n : Nat} {v : Value} {xs : List Value} (h : w.ownsRow base e size v n xs) (ho : ∀ x, x < w.heap.size → w1.heap[x]? = w.heap[x]?) : w1.ownsRow base e size v n xs := by
  refine ⟨h.1, ?_⟩
  rcases h.2 with h0 | ⟨g, cap, cur, e1, hB, hb, h3⟩
  · exact .inl h0
  · exact .inr ⟨g, cap, cur, e1, hB, (ho g (Array.getElem?_eq_some_iff.1 hb).1).trans hb, h3⟩
theorem owns_block {w : World} {base e size n : Nat} {v : Value} {xs : List Value} (h : w.ownsRow base e size v n xs) : ∀ x, v.ownBlock = some x → base ≤ x := fun x hx => by
  rcases h.2 with ⟨h0, _⟩ | ⟨g, cap, cur, e1, hB, _⟩
  · rw [h0] at hx; cases hx
  · rw [e1] at hx; cases hx; exact hB

theorem add7 [Shift] {ρ : Role} {σ : Sg} {k : List Item} {cs : List Frame} (t : Array Value) (w : World) (base c : Nat) (v : Value) (xs : List Value) (hz : t.size = 61) (h4 : t[4]? = some v) (h6 : t[6]? = some (.chan (some c))) (hO : w.ownsRow base 95 1 v xs.length xs) (hb : base ≤ w.heap.size) (hn : xs.length ≤ 100000)
    (K : ∀ (t' : Array Value) (w' : World) (v' : Value), t'.size = 61 → t'[4]? = some v' → (∀ s, s < 12 → s ≠ 4 → t'[s]? = t[s]?) → w'.ownsRow base 95 1 v' (xs.length + 1) (xs ++ [.chan (some c)]) → KeepB base w w' → Ex base w w' → MI Try.prog S0 V0 ρ σ (bare 30 t') [] k cs w') :
    MI Try.prog S0 V0 ρ σ (bare 30 t) [] (.code code7 :: k) cs w := by
  rw [code7_is]
  refine MI.ctl (k1 := .inRegion ops7 [0, 1, 2, 3, 4] :: k) (fun _ _ _ _ _ => stepG_region) ?_
  refine MI.move (o := ops7[0]'(by rw [ops7_size]; decide)) rfl (.inl rfl) rfl rfl fun U1 => ?_
  show MI _ _ _ _ _ (bare 30 (putT t (some 29) (Act.eval ⟨t, []⟩ (.tmp 4)))) _ _ _ _
  rw [ev_at h4]
  obtain ⟨t1, ht1⟩ : ∃ t1, t1 = putT t (some 29) v := ⟨_, rfl⟩
  rw [← ht1]
  have z1 : t1.size = 61 := by rw [ht1, putT_size]; exact hz
  have a29 : t1[29]? = some v := by rw [ht1, put_get (by omega)]; simp
  have a6 : t1[6]? = some (.chan (some c)) := by rw [ht1, put_get (by omega)]; simpa using h6
  have o1 : ∀ s, s < 12 → t1[s]? = t[s]? := fun s hs => by rw [ht1, put_get (by omega), if_neg (by omega)]
  clear ht1
  refine MI.move (o := ops7[1]'(by rw [ops7_size]; decide)) rfl (.inl rfl) rfl rfl fun U2 => ?_
  show MI _ _ _ _ _ (bare 30 (putT t1 (some 30) (Act.eval ⟨t1, []⟩ (.tmp 6)))) _ _ _ _
  rw [ev_at a6]
  obtain ⟨t2, ht2⟩ : ∃ t2, t2 = putT t1 (some 30) (.chan (some c)) := ⟨_, rfl⟩
  rw [← ht2]
  have z2 : t2.size = 61 := by rw [ht2, putT_size]; exact z1
  have b29 : t2[29]? = some v := by rw [ht2, put_get (by omega)]; simpa using a29
  have b30 : t2[30]? = some (.chan (some c)) := by rw [ht2, put_get (by omega)]; simp
  have o2 : ∀ s, s < 12 → t2[s]? = t[s]? := fun s hs => by rw [ht2, put_get (by omega), if_neg (by omega)]; exact o1 s hs
  clear ht2
  obtain ⟨wa, hwa⟩ : ∃ wa, wa = onT (onT w U1) U2 := ⟨_, rfl⟩
  have ha : wa.heap = w.heap := by rw [hwa]; rfl
  rw [← hwa]
  clear hwa
  refine MI.op (o := ops7[2]'(by rw [ops7_size]; decide)) (fun _ => some (.slice (some ⟨w.heap.size, 0, none⟩) 1 1)) (fun T => (retape wa T).alloc (.cells #[.chan (some c)] 95 (0, 0))) rfl rfl (by kernel_rfl) (fun T => ?_) fun T => ?_
  · have := build7 ⟨t2, []⟩ (retape wa T) c (ev_at b30)
    have e : (retape wa T).heap.size = w.heap.size := by show wa.heap.size = _; rw [ha]
    rw [e] at this
    exact this
  show MI _ _ _ _ _ (bare 30 (putT t2 (some 31) (.slice (some ⟨w.heap.size, 0, none⟩) 1 1))) _ _ _ _
  obtain ⟨t3, ht3⟩ : ∃ t3, t3 = putT t2 (some 31) (.slice (some ⟨w.heap.size, 0, none⟩) 1 1) := ⟨_, rfl⟩
  rw [← ht3]
  have z3 : t3.size = 61 := by rw [ht3, putT_size]; exact z2
  have c29 : t3[29]? = some v := by rw [ht3, put_get (by omega)]; simpa using b29
  have c31 : t3[31]? = some (.slice (some ⟨w.heap.size, 0, none⟩) 1 1) := by rw [ht3, put_get (by omega)]; simp
  have o3 : ∀ s, s < 12 → t3[s]? = t[s]? := fun s hs => by rw [ht3, put_get (by omega), if_neg (by omega)]; exact o2 s hs
  clear ht3
  obtain ⟨wb, hwb⟩ : ∃ wb, wb = (retape wa T).alloc (.cells #[.chan (some c)] 95 (0, 0)) := ⟨_, rfl⟩
  have hB : wb.heap = w.heap.push (.cells #[.chan (some c)] 95 (0, 0)) := by rw [hwb, ← ha]; rfl
  rw [← hwb]
  clear hwb
  have gB : wb.heap[w.heap.size]? = some (.cells #[.chan (some c)] 95 (0, 0)) := by rw [hB, Array.getElem?_push]; simp
  have oB : ∀ x, x < w.heap.size → wb.heap[x]? = w.heap[x]? := fun x hx => by rw [hB, Array.getElem?_push, if_neg (by omega)]
  have sB : w.heap.size ≤ wb.heap.size := by rw [hB]; simp
  have kB : KeepB base w wb := (Keeps.of_old sB oB).toB hb
  have OB := owns_old hO oB
  refine MI.opE (o := ops7[3]'(by rw [ops7_size]; decide)) rfl rfl (by kernel_rfl) fun T2 => ?_
  have OT : (retape wb T2).ownsRow base 95 1 v xs.length xs := OB
  obtain ⟨v', w', r1, r2, r3, _⟩ := app7 ⟨t3, []⟩ (retape wb T2) base w.heap.size c v xs (ev_at c29) (ev_at c31) (cell_is (w := retape wb T2) gB rfl) OT (Nat.le_trans hb sB) hn
  refine ⟨v', w', r1, ?_⟩
  have kC : KeepB base w w' := kB.trans ((show KeepB base wb (retape wb T2) from ⟨Nat.le_refl _, fun _ _ => rfl, fun _ _ => rfl⟩).trans (KeepB.grown r3 (Nat.le_trans hb sB) (owns_block OT)))
  have xC : Ex base w w' := fun x hx => ((Ex.grown r3 (Nat.le_trans hb sB) (owns_block OT)) x hx).trans (oB x (Nat.lt_of_lt_of_le hx hb))
  show MI _ _ _ _ _ (bare 30 (putT t3 (some 32) v')) _ _ _ _
  have d32 : (putT t3 (some 32) v')[32]? = some v' := by rw [put_get (by omega)]; simp
  have z4 : (putT t3 (some 32) v').size = 61 := by rw [putT_size]; exact z3
  refine MI.move (o := ops7[4]'(by rw [ops7_size]; decide)) rfl (.inr rfl) rfl rfl fun U3 => ?_
  show MI _ _ _ _ _ (bare 30 (putT (putT t3 (some 32) v') (some 4) (Act.eval ⟨putT t3 (some 32) v', []⟩ (.tmp 32)))) _ _ _ _
  rw [ev_at d32]
  refine MI.ctl (k1 := k) (fun _ _ _ _ _ => stepG_region_end) ?_
  refine K _ _ v' (by rw [putT_size]; exact z4) (by rw [put_get (by omega)]; simp) (fun s hs h => ?_) r2 ⟨kC.size, kC.cell, kC.uf⟩ xC
  rw [put_get (by omega), if_neg h, put_get (by omega), if_neg (by omega)]
  exact o3 s hs
end Go.Proofs.Ytcobehkadhcjiaa

/-
  crew.mergePairs: its first loop: every pair is handed to a worker.
-/
namespace Go.Proofs.Ytcobehkadhcjiaa
open Go Go.Conc Go.RowKit Go.Sort

/-- The channels, as they lie in the row. -/
def chv (chs : List Nat) : List Value := chs.map fun c => .chan (some c)
/-- Who works, and what he will tell. -/
def prs (ls : List (List Plain.En)) : Nat → List Nat → List (Nat × Spec)
  | _, [] => []
  | j, c :: cs => (c, specM (ls.getD (2 * j) []) (ls.getD (2 * j + 1) [])) :: prs ls (j + 1) cs
theorem prs_snoc (ls : List (List Plain.En)) (c : Nat) (chs : List Nat) : ∀ j, prs ls j (chs ++ [c]) = prs ls j chs ++ [(c, specM (ls.getD (2 * (j + chs.length)) []) (ls.getD (2 * (j + chs.length) + 1) []))] := by
  induction chs with
  | nil => intro j; simp [prs]
  | cons x xs ih =>
    intro j
    simp only [List.cons_append, prs, List.length_cons, ih (j + 1), List.cons_append]
    rw [show j + 1 + xs.length = j + (xs.length + 1) by omega]

theorem KeepB.onT (B : Nat) (w : World) (X : Tape') : KeepB B w (onT w X) := ⟨Nat.le_refl _, fun _ _ => rfl, fun _ _ => rfl⟩
theorem KeepB.frz (B : Nat) (w : World) : KeepB B w (frz w) := ⟨by rw [frz_size]; exact Nat.le_refl _, fun a _ => cell_frz w a, uf_frz _ w⟩
theorem EnB.frz {B : Nat} {w : World} {v : Value} {l : List Plain.En} (h : EnB B w v l) : EnB B (frz w) v l := h.keep (KeepB.frz B w)

structure St1 (B b off n cap : Nat) (ls : List (List Plain.En)) (t : Array Value) (w : World) (chs : List Nat) (ph : Option World) (v : Value) : Prop where
  z : t.size = 61
  t0 : t[0]? = some (.slice (some ⟨b, off, none⟩) n cap)
  t4 : t[4]? = some v
  row : w.ownsRow B 95 1 v chs.length (chv chs)
  size : B ≤ w.heap.size
  fs : (ph.getD w).heap.size = B
  fk : KeepB B (ph.getD w) w
  fl : LsB B (ph.getD w) b off n ls
  np : ph = none → chs = []

noncomputable def cond1 : Code := seqR (seqL round1)
theorem cond1_is : cond1 = .cond (.tmp 15) .skip (.exit 0) := rfl
theorem round1_is : round1 = .seq (.seq code3 cond1) (.seq (.block 1 pair1) code4) := rfl
theorem pair1_is : pair1 = .seq code5 (.seq code6 code7) := rfl
theorem loop1_is : loop1 = .block 0 (.loop round1) := rfl

set_option maxHeartbeats 400000 in
theorem round1_mi [Shift] (hP : OkP Try.prog S0 V0) {post : Value → World → Prop} {k : List Item} {cs : List Frame} {B b off n cap : Nat} {ls : List (List Plain.En)} (hn : n ≤ 200) (hls : ∀ j, (ls.getD j []).length ≤ 9223372036854775807)
    (t : Array Value) (w : World) (chs : List Nat) (ph : Option World) (v : Value) (h : St1 B b off n cap ls t w chs ph v) (h5 : t[5]? = some (.int .i64 (2 * chs.length + 1 : Nat))) (hlt : 2 * chs.length + 1 < n)
    (K : ∀ (t' : Array Value) (w' : World) (c : Nat) (w0 : World) (v' : Value), St1 B b off n cap ls t' w' (chs ++ [c]) (some w0) v' → t'[5]? = some (.int .i64 (2 * (chs ++ [c]).length + 1 : Nat)) → KeepB B w w' → Ex B (ph.getD w) w0 →
      MI Try.prog S0 V0 (.main post) ⟨some w0, none, prs ls 0 (chs ++ [c])⟩ (bare 30 t') [] k cs w') :
    MI Try.prog S0 V0 (.main post) ⟨ph, none, prs ls 0 chs⟩ (bare 30 t) [] (.code (.seq (.block 1 pair1) code4) :: k) cs w := by
  refine MI.ctl (k1 := .code (.block 1 pair1) :: .code code4 :: k) (fun _ _ _ _ _ => stepG_seq) ?_
  refine MI.ctl (k1 := .code pair1 :: .inBlock 1 :: .code code4 :: k) (fun _ _ _ _ _ => stepG_block) ?_
  rw [pair1_is]
  refine MI.ctl (k1 := .code code5 :: .code (.seq code6 code7) :: .inBlock 1 :: .code code4 :: k) (fun _ _ _ _ _ => stepG_seq) ?_
  refine chan_mi t w h.z fun c t1 U z1 c6 o1 => ?_
  refine MI.ctl (k1 := .code code6 :: .code code7 :: .inBlock 1 :: .code code4 :: k) (fun _ _ _ _ _ => stepG_seq) ?_
  have hwf : (ph.getD (onT w U)).heap = (ph.getD w).heap := by cases ph <;> rfl
  have fz : ∀ l, frozenW ⟨ph, some c, l⟩ (onT w U) = frz (ph.getD (onT w U)) := fun l => by cases ph <;> rfl
  obtain ⟨va, ca, ea⟩ := h.fl.at_ (2 * chs.length) (by omega)
  obtain ⟨vb, cb, eb⟩ := h.fl.at_ (2 * chs.length + 1) (by omega)
  have ka : w.cell? ⟨b, off + 2 * chs.length, none⟩ = some va := (h.fk.cell _ h.fl.lt).trans ca
  have kb : w.cell? ⟨b, off + (2 * chs.length + 1), none⟩ = some vb := (h.fk.cell _ h.fl.lt).trans cb
  have kz : KeepB B (ph.getD w) (frz (ph.getD (onT w U))) := (show KeepB B (ph.getD w) (ph.getD (onT w U)) from ⟨by rw [hwf]; exact Nat.le_refl _, fun a _ => by unfold World.cell?; rw [hwf], fun x _ => by rw [hwf]⟩).trans (KeepB.frz B _)
  have fa := ea.keep kz
  have fb := eb.keep kz
  have sz : (frz (ph.getD (onT w U))).heap.size = B := by rw [frz_size, hwf]; exact h.fs
  refine pair_go hP t1 va vb (ls.getD (2 * chs.length) []) (ls.getD (2 * chs.length + 1) []) b off n cap (2 * chs.length + 1) c (onT w U) z1 (by rw [o1 0 (by omega) (by omega)]; exact h.t0) (by rw [o1 5 (by omega) (by omega)]; exact h5) c6 (by omega) hlt (by omega)
    ka kb rfl (hls _) (hls _) (by rw [fz]; exact fa.seg) (by rw [fz, sz]; exact fa.lies) (by rw [fz, sz]; exact fa.slv) (by rw [fz]; exact fb.seg) (by rw [fz, sz]; exact fb.lies) (by rw [fz, sz]; exact fb.slv) fun t2 X z2 o2 => ?_
  refine MI.ctl (k1 := .code code7 :: .inBlock 1 :: .code code4 :: k) (fun _ _ _ _ _ => stepG_region_end) ?_
  obtain ⟨w2, hw2⟩ : ∃ w2, w2 = (match ph with | some _ => onT (onT w U) X | none => frz (onT (onT w U) X)) := ⟨_, rfl⟩
  obtain ⟨w0, hw0⟩ : ∃ w0, w0 = ph.getD (onT (onT w U) X) := ⟨_, rfl⟩
  have k2 : KeepB B w w2 := by
    rw [hw2]
    cases ph with
    | none => exact (KeepB.onT B w U).trans ((KeepB.onT B _ X).trans (KeepB.frz B _))
    | some _ => exact (KeepB.onT B w U).trans (KeepB.onT B _ X)
  have k0 : KeepB B (ph.getD w) w0 ∧ KeepB B w0 w2 ∧ w0.heap.size = (ph.getD w).heap.size ∧ w2.heap.size = w.heap.size ∧ w2.ownsRow B 95 1 v chs.length (chv chs) ∧ Ex B (ph.getD w) w0 := by
    rw [hw2, hw0]
    cases ph with
    | none =>
      refine ⟨(KeepB.onT B w U).trans (KeepB.onT B _ X), KeepB.frz B _, rfl, frz_size _, ?_, fun _ _ => rfl⟩
      have e := h.np rfl
      subst e
      have := h.row
      refine ⟨this.1, ?_⟩
      rcases this.2 with h0 | ⟨g, cap', cur, e1, hB, hb, h3⟩
      · exact .inl h0
      · have q1 := (Array.getElem?_eq_some_iff.1 hb).1
        have q2 : w.heap.size = B := h.fs
        omega
    | some w0 => exact ⟨KeepB.refl B _, h.fk.trans ((KeepB.onT B w U).trans (KeepB.onT B _ X)), rfl, rfl, h.row, fun _ _ => rfl⟩
  obtain ⟨k01, k02, k03, k04, k05, x0⟩ := k0
  suffices hh : MI Try.prog S0 V0 (.main post) ⟨some w0, none, prs ls 0 chs ++ [(c, specM (ls.getD (2 * chs.length) []) (ls.getD (2 * chs.length + 1) []))]⟩ (bare 30 t2) [] (.code code7 :: .inBlock 1 :: .code code4 :: k) cs w2 by
    rw [hw0, hw2] at hh
    cases ph <;> exact hh
  clear hw2 hw0
  have q4 : t2[4]? = some v := by rw [o2 4 (by omega), o1 4 (by omega) (by omega)]; exact h.t4
  have q6 : t2[6]? = some (.chan (some c)) := by rw [o2 6 (by omega)]; exact c6
  have lx : (chv chs).length = chs.length := by simp [chv]
  refine add7 t2 w2 B c v (chv chs) z2 q4 q6 (by rw [lx]; exact k05) (by rw [k04]; exact h.size) (by rw [lx]; omega) fun t3 w3 v3 z3 d4 o3 r3 k3 _ => ?_
  refine MI.ctl (k1 := .code code4 :: k) (fun _ _ _ _ _ => stepG_inBlock) ?_
  refine step4 t3 w3 (2 * chs.length + 1 : Nat) z3 (by rw [o3 5 (by omega) (by omega), o2 5 (by omega), o1 5 (by omega) (by omega)]; exact h5) (by omega) (by omega) fun t4 Y z4 e5 o4 => ?_
  have hps : prs ls 0 chs ++ [(c, specM (ls.getD (2 * chs.length) []) (ls.getD (2 * chs.length + 1) []))] = prs ls 0 (chs ++ [c]) := by rw [prs_snoc, Nat.zero_add]
  rw [hps]
  refine K t4 (onT w3 Y) c w0 v3 ⟨z4, ?_, ?_, ?_, ?_, ?_, ?_, ?_, fun e => by cases e⟩ ?_ ((k2.trans k3).trans (KeepB.onT B _ Y)) x0
  · rw [o4 0 (by omega) (by omega), o3 0 (by omega) (by omega), o2 0 (by omega), o1 0 (by omega) (by omega)]; exact h.t0
  · rw [o4 4 (by omega) (by omega)]; exact d4
  · have : chv (chs ++ [c]) = chv chs ++ [.chan (some c)] := by simp [chv]
    rw [this]
    rw [lx] at r3
    rw [show (chs ++ [c]).length = chs.length + 1 by simp]
    exact r3
  · exact Nat.le_trans h.size ((k2.trans k3).size)
  · show w0.heap.size = B
    rw [k03]; exact h.fs
  · exact (k02.trans k3).trans (KeepB.onT B _ Y)
  · exact h.fl.keep k01
  · rw [e5]
    simp only [List.length_append, List.length_singleton, Option.some.injEq, Value.int.injEq, true_and]
    omega

theorem loop1_mi [Shift] (hP : OkP Try.prog S0 V0) {post : Value → World → Prop} {k : List Item} {cs : List Frame} {B b off n cap : Nat} {ls : List (List Plain.En)} (hn : n ≤ 200) (hls : ∀ j, (ls.getD j []).length ≤ 9223372036854775807) :
    ∀ (r : Nat) (t : Array Value) (w : World) (chs : List Nat) (ph : Option World) (v : Value), St1 B b off n cap ls t w chs ph v → t[5]? = some (.int .i64 (2 * chs.length + 1 : Nat)) → (n = 2 * (chs.length + r) ∨ n = 2 * (chs.length + r) + 1) →
    (∀ (t' : Array Value) (w' : World) (chs' : List Nat) (ph' : Option World) (v' : Value), St1 B b off n cap ls t' w' chs' ph' v' → KeepB B w w' → Ex B (ph.getD w) (ph'.getD w') → (n = 2 * chs'.length ∨ n = 2 * chs'.length + 1) →
      MI Try.prog S0 V0 (.main post) ⟨ph', none, prs ls 0 chs'⟩ (bare 30 t') [] k cs w') →
    MI Try.prog S0 V0 (.main post) ⟨ph, none, prs ls 0 chs⟩ (bare 30 t) [] (.code round1 :: .inLoop round1 :: .inBlock 0 :: k) cs w := by
  intro r
  induction r with
  | zero =>
    intro t w chs ph v h h5 hr K
    rw [round1_is]
    refine MI.ctl (k1 := .code (.seq code3 cond1) :: .code (.seq (.block 1 pair1) code4) :: .inLoop round1 :: .inBlock 0 :: k) (fun _ _ _ _ _ => stepG_seq) ?_
    refine MI.ctl (k1 := .code code3 :: .code cond1 :: .code (.seq (.block 1 pair1) code4) :: .inLoop round1 :: .inBlock 0 :: k) (fun _ _ _ _ _ => stepG_seq) ?_
    refine head3 t w _ n cap _ h.z h.t0 h5 fun t1 X z1 c15 o1 => ?_
    rw [cond1_is]
    refine MI.cond (q := decide (((2 * chs.length + 1 : Nat) : Int) < (n : Int))) rfl (ev_at c15) ?_
    rw [decide_eq_false (by omega)]
    refine MI.ctl (k1 := k) (fun _ _ _ _ _ => stepG_exit rfl) ?_
    refine K t1 (onT w X) chs ph v ⟨z1, by rw [o1 0 (by omega)]; exact h.t0, by rw [o1 4 (by omega)]; exact h.t4, h.row, h.size, ?_, ?_, ?_, h.np⟩ (KeepB.onT B w X) (by cases ph <;> exact fun _ _ => rfl) (by omega)
    · cases ph <;> exact h.fs
    · cases ph
      · exact KeepB.refl B _
      · exact h.fk.trans (KeepB.onT B _ X)
    · cases ph
      · exact h.fl.keep (KeepB.onT B _ X)
      · exact h.fl
  | succ r ih =>
    intro t w chs ph v h h5 hr K
    rw [round1_is]
    refine MI.ctl (k1 := .code (.seq code3 cond1) :: .code (.seq (.block 1 pair1) code4) :: .inLoop round1 :: .inBlock 0 :: k) (fun _ _ _ _ _ => stepG_seq) ?_
    refine MI.ctl (k1 := .code code3 :: .code cond1 :: .code (.seq (.block 1 pair1) code4) :: .inLoop round1 :: .inBlock 0 :: k) (fun _ _ _ _ _ => stepG_seq) ?_
    refine head3 t w _ n cap _ h.z h.t0 h5 fun t1 X z1 c15 o1 => ?_
    rw [cond1_is]
    refine MI.cond (q := decide (((2 * chs.length + 1 : Nat) : Int) < (n : Int))) rfl (ev_at c15) ?_
    rw [decide_eq_true (by omega)]
    refine MI.ctl (k1 := .code (.seq (.block 1 pair1) code4) :: .inLoop round1 :: .inBlock 0 :: k) (fun _ _ _ _ _ => stepG_skip) ?_
    have h' : St1 B b off n cap ls t1 (onT w X) chs ph v := by
      refine ⟨z1, by rw [o1 0 (by omega)]; exact h.t0, by rw [o1 4 (by omega)]; exact h.t4, h.row, h.size, ?_, ?_, ?_, h.np⟩
      · cases ph <;> exact h.fs
      · cases ph
        · exact KeepB.refl B _
        · exact h.fk.trans (KeepB.onT B _ X)
      · cases ph
        · exact h.fl.keep (KeepB.onT B _ X)
        · exact h.fl
    refine round1_mi hP hn hls t1 (onT w X) chs ph v h' (by rw [o1 5 (by omega)]; exact h5) (by omega) fun t2 w2 c w0 v2 h2 e5 k2 x2 => ?_
    refine MI.ctl (k1 := .code round1 :: .inLoop round1 :: .inBlock 0 :: k) (fun _ _ _ _ _ => stepG_inLoop) ?_
    exact ih t2 w2 (chs ++ [c]) (some w0) v2 h2 e5 (by simp only [List.length_append, List.length_singleton]; omega) fun t3 w3 chs3 ph3 v3 h3 k3 x3 => K t3 w3 chs3 ph3 v3 h3 (((KeepB.onT B w X).trans k2).trans k3) ((show Ex B (ph.getD w) w0 from fun x hx => (x2 x hx).trans (by cases ph <;> rfl)).trans x3)
end Go.Proofs.Ytcobehkadhcjiaa

/-
  Slots by name: what is known of some of a frame's slots, entry by entry.
-/
namespace Go.Proofs.Ytcobehkadhcjiaa
open Go Go.Conc Go.RowKit Go.Sort

structure Sl (t : Array Value) (n : Nat) (l : List (Nat × Value)) : Prop where
  size : t.size = n
  at_ : ∀ p ∈ l, t[p.1]? = some p.2
def setS (d : Nat) (v : Value) (l : List (Nat × Value)) : List (Nat × Value) := (d, v) :: l.filter fun p => p.1 != d
theorem Sl.get {t : Array Value} {n : Nat} {l : List (Nat × Value)} (h : Sl t n l) {s : Nat} {v : Value} (hm : (s, v) ∈ l) : t[s]? = some v := h.at_ _ hm
theorem Sl.ev {t : Array Value} {n : Nat} {l : List (Nat × Value)} (h : Sl t n l) {s : Nat} {v : Value} (hm : (s, v) ∈ l) : Act.eval ⟨t, []⟩ (.tmp s) = v := ev_at (h.get hm)
theorem Sl.put {t : Array Value} {n d : Nat} {l : List (Nat × Value)} (h : Sl t n l) (hd : d < n) (v : Value) : Sl (putT t (some d) v) n (setS d v l) := by
  refine ⟨by rw [putT_size]; exact h.size, fun p hp => ?_⟩
  rw [put_get (by rw [h.size]; exact hd)]
  unfold setS at hp
  rcases List.mem_cons.1 hp with rfl | hp
  · simp
  · obtain ⟨h1, h2⟩ := List.mem_filter.1 hp
    rw [if_neg (by simpa using h2)]
    exact h.at_ p h1
theorem Sl.sub {t : Array Value} {n : Nat} {l l' : List (Nat × Value)} (h : Sl t n l) (hs : ∀ p ∈ l', p ∈ l) : Sl t n l' := ⟨h.size, fun p hp => h.at_ p (hs p hp)⟩

section
variable [Shift] {P : Program} {S V : FuncId → Bool} {ρ : Role} {σ : Sg} {f : FuncId} {t : Array Value} {ops : Array Oper} {i : Nat} {rest : List Nat} {k : List Item} {cs : List Frame} {w : World} {n : Nat} {l : List (Nat × Value)}
/-- A move. -/
theorem MI.mv (hS : Sl t n l) {o : Oper} (s d : Nat) (v : Value) (ho : ops[i]? = some o) (hop : o.op = .move (.tmp s) ∨ o.op = .assign (.tmp s)) (hd : o.dst = some d) (hg : o.guard = none) (hn : d < n) (hm : (s, v) ∈ l)
    (h : ∀ t' U, Sl t' n (setS d v l) → MI P S V ρ σ (bare f t') [] (.inRegion ops rest :: k) cs (onT w U)) : MI P S V ρ σ (bare f t) [] (.inRegion ops (i :: rest) :: k) cs w := by
  refine MI.move ho hop hg rfl fun U => ?_
  rw [hd, hS.ev hm]
  exact h _ U (hS.put hn v)
/-- A constant. -/
theorem MI.cst (hS : Sl t n l) {o : Oper} (d : Nat) (v : Value) (ho : ops[i]? = some o) (hop : o.op = .move (.const v) ∨ o.op = .assign (.const v)) (hd : o.dst = some d) (hg : o.guard = none) (hn : d < n) (hx : okX S (.const v) = true)
    (h : ∀ t' U, Sl t' n (setS d v l) → MI P S V ρ σ (bare f t') [] (.inRegion ops rest :: k) cs (onT w U)) : MI P S V ρ σ (bare f t) [] (.inRegion ops (i :: rest) :: k) cs w := by
  refine MI.move ho hop hg hx fun U => ?_
  rw [hd]
  exact h _ U (hS.put hn v)
/-- An entry that yields a value and leaves the world as it is. -/
theorem MI.vl (hS : Sl t n l) {o : Oper} (d : Nat) (v : Value) (ho : ops[i]? = some o) (hd : o.dst = some d) (hg : o.guard = none) (hn : d < n) (hok : okOp P S o.op = true)
    (hr : ∀ T, (execOp (Act.eval ⟨t, []⟩) o).run P (retape w T) = .ok (.value v) (retape w T))
    (h : ∀ t' U, Sl t' n (setS d v l) → MI P S V ρ σ (bare f t') [] (.inRegion ops rest :: k) cs (onT w U)) : MI P S V ρ σ (bare f t) [] (.inRegion ops (i :: rest) :: k) cs w := by
  refine MI.op (fun _ => some v) (fun T => retape w T) ho (by simp [Region.wanted, hg]) hok hr fun T => ?_
  rw [hd]
  exact h _ _ (hS.put hn v)
/-- An entry that yields a value and a world. -/
theorem MI.ow (hS : Sl t n l) {o : Oper} (d : Nat) (ho : ops[i]? = some o) (hd : o.dst = some d) (hg : o.guard = none) (hn : d < n) (hok : okOp P S o.op = true)
    (hr : ∀ T, ∃ v w1, (execOp (Act.eval ⟨t, []⟩) o).run P (retape w T) = .ok (.value v) w1 ∧ ∀ t', Sl t' n (setS d v l) → MI P S V ρ σ (bare f t') [] (.inRegion ops rest :: k) cs w1) : MI P S V ρ σ (bare f t) [] (.inRegion ops (i :: rest) :: k) cs w := by
  refine MI.opE ho hg hok fun T => ?_
  obtain ⟨v, w1, h1, h2⟩ := hr T
  refine ⟨v, w1, h1, ?_⟩
  rw [hd]
  exact h2 _ (hS.put hn v)
/-- A region that draws nothing. -/
theorem MI.reg {id : Nat} {r : List Nat} (hr : List.range ops.size = r) (h : MI P S V ρ σ (bare f t) [] (.inRegion ops r :: k) cs w) : MI P S V ρ σ (bare f t) [] (.code (.region id ops false) :: k) cs w :=
  MI.ctl (k1 := .inRegion ops r :: k) (fun _ _ _ _ _ => by rw [← hr]; exact stepG_region) h
theorem MI.regE (h : MI P S V ρ σ (bare f t) [] k cs w) : MI P S V ρ σ (bare f t) [] (.inRegion ops [] :: k) cs w := MI.ctl (k1 := k) (fun _ _ _ _ _ => stepG_region_end) h
theorem MI.seq {a b : Code} (h : MI P S V ρ σ (bare f t) [] (.code a :: .code b :: k) cs w) : MI P S V ρ σ (bare f t) [] (.code (.seq a b) :: k) cs w := MI.ctl (fun _ _ _ _ _ => stepG_seq) h
end

/-! ### Entries -/
theorem run_ix {P : Program} {e : Operand → Value} {w : World} {o : Oper} {x y : Operand} {ty el : TypeId} (ho : o.op = .indexAddr ty x y) (hu : P.underlying ty = some (.slice el)) (hs : (P.info? el).map (·.size) = some 1) (b off n cap i : Nat)
    (h1 : e x = .slice (some ⟨b, off, none⟩) n cap) (h2 : e y = .int .i64 i) (hi : i < n) : (execOp e o).run P w = .ok (.value (.pointer (some ⟨b, off + i, none⟩))) w := by
  have he : P.elem ty = el := by simp [Program.elem, hu]
  subst he
  have hz : (sizeOf (P.elem ty)).run P w = .ok 1 w := by
    cases hi' : P.info? (P.elem ty) with
    | none => rw [hi'] at hs; cases hs
    | some ie =>
      rw [hi'] at hs
      simp only [Option.map_some, Option.some.injEq] at hs
      simp [sizeOf, typeInfo, hi', hs]
  unfold execOp
  simp only [ho, h1, h2, Sem.run_bind]
  rw [run_indexAt_slice (P := P) (h := hu), if_pos ⟨by omega, by omega⟩, hz]
  simp only [Result.andThen_ok, Int.toNat_natCast, Nat.mul_one, Addr.add]
  by_cases i0 : i = 0
  · subst i0; rfl
  · rw [if_neg i0]; rfl
theorem run_len {P : Program} {e : Operand → Value} {w : World} {o : Oper} {x : Operand} {ty el : TypeId} (ho : o.op = .call { callee := .builtin .len, args := #[x], argTypes := #[ty] }) (hu : P.underlying ty = some (.slice el)) (p : Option Addr) (n c : Nat) (h : e x = .slice p n c) :
    (execOp e o).run P w = .ok (.value (goInt n)) w := by
  have he : P.elem ty = el := by simp [Program.elem, hu]
  subst he
  unfold execOp
  rw [ho]
  simp [go_sem, resolve, invoke, builtin, h, run_len_slice (P := P) (h := hu)]
theorem run_lss {P : Program} {e : Operand → Value} {w : World} {o : Oper} {x y : Operand} (ho : o.op = .binOp .lss 3 x y 3) (i j : Int) (h1 : e x = .int .i64 i) (h2 : e y = .int .i64 j) : (execOp e o).run P w = .ok (.value (.bool (decide (i < j)))) w := by
  unfold execOp
  rw [ho]
  simp only [h1, h2]
  simp [go_sem]
theorem run_addi {P : Program} {e : Operand → Value} {w : World} {o : Oper} {x y : Operand} (ho : o.op = .binOp .add 3 x y 3) (i j : Int) (h1 : e x = .int .i64 i) (h2 : e y = .int .i64 j) (hw : IntKind.i64.wrap (i + j) = i + j) : (execOp e o).run P w = .ok (.value (.int .i64 (i + j))) w := by
  unfold execOp
  rw [ho]
  simp only [h1, h2]
  simp [go_sem, hw]
theorem run_muli {P : Program} {e : Operand → Value} {w : World} {o : Oper} {x y : Operand} (ho : o.op = .binOp .mul 3 x y 3) (i j : Int) (h1 : e x = .int .i64 i) (h2 : e y = .int .i64 j) (hw : IntKind.i64.wrap (i * j) = i * j) : (execOp e o).run P w = .ok (.value (.int .i64 (i * j))) w := by
  unfold execOp
  rw [ho]
  simp only [h1, h2]
  simp [go_sem, hw]
theorem run_app {P : Program} {e : Operand → Value} {w : World} {o : Oper} {x y : Operand} {ty el : TypeId} {i : TypeInfo} {z : Value} {bytes : Nat} (ho : o.op = .call { callee := .builtin .append, args := #[x, y], argTypes := #[ty, ty] })
    (hu : P.underlying ty = some (.slice el)) (hi : P.info? el = some i) (hz : i.zero = some z) (hs : i.size = 1) (hb : i.bytes = bytes) (hzs : z.cells.size = 1) (hbb : bytes ≤ 1000) (B : Nat) (v : Value) (n : Nat) (xs : List Value) (hO : w.ownsRow B el 1 v n xs)
    (a : Addr) (m c : Nat) (ys : List Value) (hl : ys.length = m) (hy : ∀ j u, ys[j]? = some u → w.cell? (a.add j) = some u) (h1 : ∀ u ∈ ys, u.oneCell' = true) (hn : n + m ≤ 100000) (hB : B ≤ w.heap.size) (e1 : e x = v) (e2 : e y = .slice (some a) m c) :
    ∃ v' w', (execOp e o).run P w = .ok (.value v') w' ∧ w'.ownsRow B el 1 v' (n + m) (xs ++ ys) ∧ w.grownBy w' v.ownBlock ∧ (v'.ownBlock = v.ownBlock ∨ v'.ownBlock = some w.heap.size) := by
  obtain ⟨v', w', r1, r2, r3, _, r5⟩ := run_append_own_at (P := P) (w := w) B ty o.type el i z 1 bytes hu hi hz hs hb hzs (by omega) v n xs hO a m c ys (by rw [hl]; omega) hy h1 (by unfold maxLen; omega) (by have := Nat.mul_le_mul hn hbb; omega) hB
  refine ⟨v', w', ?_, r2, r3, r5⟩
  unfold execOp
  rw [ho]
  simp [resolve, invoke, builtin, e1, e2, r1]
end Go.Proofs.Ytcobehkadhcjiaa

/-
  crew.mergePairs: its second loop: entries.
-/
namespace Go.Proofs.Ytcobehkadhcjiaa
open Go Go.Conc Go.RowKit Go.Sort

noncomputable def head2 : Code := seqL round2
noncomputable def ops11 : Array Oper := opsC head2
noncomputable def ops12 : Array Oper := opsC code12
noncomputable def code14 : Code := seqL (seqR (seqR hear2))
noncomputable def code15 : Code := seqR (seqR (seqR hear2))
noncomputable def ops14 : Array Oper := opsC code14
noncomputable def ops15 : Array Oper := opsC code15
noncomputable def code16 : Code := seqR (seqR (seqR round2))
noncomputable def ops16 : Array Oper := opsC code16
noncomputable def cond2 : Code := seqL (seqR round2)
theorem head2_is : head2 = .region 11 ops11 false := rfl
theorem code12_is : code12 = .region 12 ops12 false := rfl
theorem code14_is : code14 = .region 14 ops14 false := rfl
theorem code15_is : code15 = .region 15 ops15 false := rfl
theorem code16_is : code16 = .region 16 ops16 false := rfl
theorem cond2_is : cond2 = .cond (.tmp 36) .skip (.exit 2) := rfl
theorem round2_is : round2 = .seq head2 (.seq cond2 (.seq (.block 3 hear2) code16)) := rfl
theorem hear2_is : hear2 = .seq code12 (.seq code13 (.seq code14 code15)) := rfl
theorem ops11_size : ops11.size = 1 := by kernel_rfl
theorem ops12_size : ops12.size = 3 := by kernel_rfl
theorem ops14_size : ops14.size = 6 := by kernel_rfl
theorem ops15_size : ops15.size = 6 := by kernel_rfl
theorem ops16_size : ops16.size = 2 := by kernel_rfl

/-- The slots at the second loop's head. -/
def L2 (l0 v fv cv : Value) (m j : Nat) : List (Nat × Value) := [(0, l0), (4, v), (7, fv), (8, cv), (33, v), (34, .int .i64 m), (35, .int .i64 j)]

theorem ld12 (e : Act) (w : World) (a : Addr) (v : Value) (h1 : e.eval (.tmp 37) = .pointer (some a)) (h2 : w.cell? a = some v) : (execOp e.eval (ops12[1]'(by rw [ops12_size]; decide))).run Try.prog w = .ok (.value v) w := by
  have ho : (ops12[1]'(by rw [ops12_size]; decide)).op = Op.load 95 (.tmp 37) := rfl
  unfold execOp
  rw [ho]
  simp only [h1]
  simp [go_sem, h2]

/-- All blocks but F are as they were. -/
structure Gr (F : Option Nat) (w w1 : World) : Prop where
  size : w.heap.size ≤ w1.heap.size
  block : ∀ x, x < w.heap.size → some x ≠ F → w1.heap[x]? = w.heap[x]?
theorem Gr.of_onT (F : Option Nat) (w : World) (X : Tape') : Gr F w (onT w X) := ⟨Nat.le_refl _, fun _ _ _ => rfl⟩
theorem Gr.trans {F : Option Nat} {a b c : World} (h : Gr F a b) (k : Gr F b c) : Gr F a c := ⟨Nat.le_trans h.size k.size, fun x h1 h2 => (k.block x (Nat.lt_of_lt_of_le h1 h.size) h2).trans (h.block x h1 h2)⟩
theorem Gr.ex {F : Option Nat} {w w1 : World} {B : Nat} (h : Gr F w w1) (hB : B ≤ w.heap.size) (hF : ∀ x, F = some x → B ≤ x) : Ex B w w1 := fun x hx => h.block x (Nat.lt_of_lt_of_le hx hB) fun e => by have := hF _ e.symm; omega
theorem Gr.toB {F : Option Nat} {w w1 : World} {B : Nat} (h : Gr F w w1) (hB : B ≤ w.heap.size) (hF : ∀ x, F = some x → B ≤ x) : KeepB B w w1 := ⟨h.size, fun a ha => by
  unfold World.cell?
  rw [h.block a.block (Nat.lt_of_lt_of_le ha hB) fun e => by have := hF _ e.symm; omega], (h.ex hB hF).uf⟩

theorem info_from {T s b : Nat} {z : Value} (h1 : (Try.prog.info? T).map (fun i => (i.size, i.bytes)) = some (s, b)) (h2 : (Try.prog.info? T).bind (fun i => i.zero) = some z) : ∃ i, Try.prog.info? T = some i ∧ i.size = s ∧ i.bytes = b ∧ i.zero = some z := by
  cases hi : Try.prog.info? T with
  | none => rw [hi] at h1; cases h1
  | some i =>
    rw [hi] at h1 h2
    simp only [Option.map_some, Option.some.injEq, Prod.mk.injEq, Option.bind_some] at h1 h2
    exact ⟨i, rfl, h1.1, h1.2, h2⟩
theorem info30 : ∃ i, Try.prog.info? 30 = some i ∧ i.size = 1 ∧ i.bytes = 24 ∧ i.zero = some (.slice none 0 0) := info_from (by kernel_rfl) (by kernel_rfl)
theorem info24 : ∃ i, Try.prog.info? 24 = some i ∧ i.size = 1 ∧ i.bytes = 8 ∧ i.zero = some (.int .i64 0) := info_from (by kernel_rfl) (by kernel_rfl)

theorem fld14 (e : Act) (w : World) (g : Nat) (h1 : e.eval (.tmp 11) = .pointer (some ⟨g, 0, none⟩)) : (execOp e.eval (ops14[1]'(by rw [ops14_size]; decide))).run Try.prog w = .ok (.value (.pointer (some ⟨g, 0, none⟩))) w := by
  have ho : (ops14[1]'(by rw [ops14_size]; decide)).op = Op.fieldAddr 98 (.tmp 11) 0 := rfl
  unfold execOp
  rw [ho]
  simp only [h1]
  simp [go_sem]
theorem fld15 (e : Act) (w : World) (g : Nat) (h1 : e.eval (.tmp 11) = .pointer (some ⟨g, 0, none⟩)) : (execOp e.eval (ops15[1]'(by rw [ops15_size]; decide))).run Try.prog w = .ok (.value (.pointer (some ⟨g, 1, none⟩))) w := by
  have ho : (ops15[1]'(by rw [ops15_size]; decide)).op = Op.fieldAddr 98 (.tmp 11) 1 := rfl
  unfold execOp
  rw [ho]
  simp only [h1]
  simp [go_sem]
theorem ld14 (e : Act) (w : World) (a : Addr) (v : Value) (h1 : e.eval (.tmp 42) = .pointer (some a)) (h2 : w.cell? a = some v) : (execOp e.eval (ops14[2]'(by rw [ops14_size]; decide))).run Try.prog w = .ok (.value v) w := by
  have ho : (ops14[2]'(by rw [ops14_size]; decide)).op = Op.load 30 (.tmp 42) := rfl
  unfold execOp
  rw [ho]
  simp only [h1]
  simp [go_sem, h2]
theorem ld15 (e : Act) (w : World) (a : Addr) (v : Value) (h1 : e.eval (.tmp 47) = .pointer (some a)) (h2 : w.cell? a = some v) : (execOp e.eval (ops15[2]'(by rw [ops15_size]; decide))).run Try.prog w = .ok (.value v) w := by
  have ho : (ops15[2]'(by rw [ops15_size]; decide)).op = Op.load 24 (.tmp 47) := rfl
  unfold execOp
  rw [ho]
  simp only [h1]
  simp [go_sem, h2]
theorem build14 (e : Act) (w : World) (p : Option Addr) (n c : Nat) (h : e.eval (.tmp 43) = .slice p n c) : (execOp e.eval (ops14[3]'(by rw [ops14_size]; decide))).run Try.prog w = .ok (.value (.slice (some ⟨w.heap.size, 0, none⟩) 1 1)) (w.alloc (.cells #[.slice p n c] 30 (0, 0))) := by
  have ho : (ops14[3]'(by rw [ops14_size]; decide)).op = Op.buildSlice 29 1 #[(0, .tmp 43)] := rfl
  unfold execOp
  rw [ho]
  have h' : e.tmps[43]?.getD undef = .slice p n c := by
    rw [← h]
    show _ = e.tmps.getD 43 undef
    rw [Array.getD_eq_getD_getElem?]
  simp [go_sem, h']
theorem build15 (e : Act) (w : World) (c : Int) (h : e.eval (.tmp 48) = .int .i64 c) : (execOp e.eval (ops15[3]'(by rw [ops15_size]; decide))).run Try.prog w = .ok (.value (.slice (some ⟨w.heap.size, 0, none⟩) 1 1)) (w.alloc (.cells #[.int .i64 c] 24 (0, 0))) := by
  have ho : (ops15[3]'(by rw [ops15_size]; decide)).op = Op.buildSlice 47 1 #[(0, .tmp 48)] := rfl
  unfold execOp
  rw [ho]
  have h' : e.tmps[48]?.getD undef = .int .i64 c := by
    rw [← h]
    show _ = e.tmps.getD 48 undef
    rw [Array.getD_eq_getD_getElem?]
  simp [go_sem, h']
end Go.Proofs.Ytcobehkadhcjiaa

/-
  crew.mergePairs: its second loop: regions 11, 12, 14, 15, 16.
-/
namespace Go.Proofs.Ytcobehkadhcjiaa
open Go Go.Conc Go.RowKit Go.Sort

variable [Shift] {ρ : Role} {σ : Sg} {k : List Item} {cs : List Frame}

theorem head2_mi (t : Array Value) (w : World) (l0 v fv cv : Value) (m j : Nat) (hS : Sl t 61 (L2 l0 v fv cv m j))
    (K : ∀ (t' : Array Value) U, Sl t' 61 ((36, .bool (decide (j < m))) :: L2 l0 v fv cv m j) → MI Try.prog S0 V0 ρ σ (bare 30 t') [] k cs (onT w U)) : MI Try.prog S0 V0 ρ σ (bare 30 t) [] (.code head2 :: k) cs w := by
  rw [head2_is]
  refine MI.reg (r := [0]) (by rw [ops11_size]; rfl) ?_
  refine MI.vl hS (o := ops11[0]'(by rw [ops11_size]; decide)) 36 (.bool (decide ((j : Int) < (m : Int)))) rfl rfl rfl (by omega) (by kernel_rfl) (fun T => run_lss (x := .tmp 35) (y := .tmp 34) rfl j m (hS.ev (by simp [L2])) (hS.ev (by simp [L2]))) fun t1 U1 hS1 => ?_
  refine MI.regE ?_
  refine K t1 U1 (hS1.sub ?_)
  simp [setS, L2]

theorem read12_mi (t : Array Value) (w : World) (l0 fv cv : Value) (m j g cap c : Nat) (hj : j < m) (hc : w.cell? ⟨g, 0 + j, none⟩ = some (.chan (some c))) (hS : Sl t 61 (L2 l0 (.slice (some ⟨g, 0, none⟩) m cap) fv cv m j))
    (K : ∀ (t' : Array Value) U, Sl t' 61 ((10, .chan (some c)) :: L2 l0 (.slice (some ⟨g, 0, none⟩) m cap) fv cv m j) → MI Try.prog S0 V0 ρ σ (bare 30 t') [] k cs (onT w U)) : MI Try.prog S0 V0 ρ σ (bare 30 t) [] (.code code12 :: k) cs w := by
  rw [code12_is]
  refine MI.reg (r := [0, 1, 2]) (by rw [ops12_size]; rfl) ?_
  refine MI.vl hS (o := ops12[0]'(by rw [ops12_size]; decide)) 37 (.pointer (some ⟨g, 0 + j, none⟩)) rfl rfl rfl (by omega) (by kernel_rfl)
    (fun T => run_ix (x := .tmp 33) (y := .tmp 35) (ty := 94) (el := 95) rfl Try.underlying94 (by kernel_rfl) g 0 m cap j (hS.ev (by simp [L2])) (hS.ev (by simp [L2])) hj) fun t1 U1 hS1 => ?_
  refine MI.vl hS1 (o := ops12[1]'(by rw [ops12_size]; decide)) 38 (.chan (some c)) rfl rfl rfl (by omega) (by kernel_rfl) (fun T => ld12 ⟨t1, []⟩ _ ⟨g, 0 + j, none⟩ _ (hS1.ev (by simp [setS, L2])) hc) fun t2 U2 hS2 => ?_
  refine MI.mv hS2 (o := ops12[2]'(by rw [ops12_size]; decide)) 38 10 (.chan (some c)) rfl (.inr rfl) rfl rfl (by omega) (by simp [setS, L2]) fun t3 U3 hS3 => ?_
  refine MI.regE ?_
  refine K t3 U3 (hS3.sub ?_)
  simp [setS, L2]

theorem told14_mi (t : Array Value) (w : World) (B : Nat) (l0 v fv cv : Value) (m j g : Nat) (p : Option Addr) (n c : Nat) (rs : List Value) (hS : Sl t 61 ((11, .pointer (some ⟨g, 0, none⟩)) :: L2 l0 v fv cv m j))
    (hg : w.cell? ⟨g, 0, none⟩ = some (.slice p n c)) (hO : w.ownsRow B 30 1 fv rs.length rs) (hB : B ≤ w.heap.size) (hn : rs.length ≤ 1000)
    (K : ∀ (t' : Array Value) (w' : World) (fv' : Value), Sl t' 61 ((11, .pointer (some ⟨g, 0, none⟩)) :: L2 l0 v fv' cv m j) → w'.ownsRow B 30 1 fv' (rs.length + 1) (rs ++ [.slice p n c]) → Gr fv.ownBlock w w' →
      (fv'.ownBlock = fv.ownBlock ∨ ∀ x, fv'.ownBlock = some x → w.heap.size ≤ x) → MI Try.prog S0 V0 ρ σ (bare 30 t') [] k cs w') : MI Try.prog S0 V0 ρ σ (bare 30 t) [] (.code code14 :: k) cs w := by
  rw [code14_is]
  refine MI.reg (r := [0, 1, 2, 3, 4, 5]) (by rw [ops14_size]; rfl) ?_
  refine MI.mv hS (o := ops14[0]'(by rw [ops14_size]; decide)) 7 41 fv rfl (.inl rfl) rfl rfl (by omega) (by simp [L2]) fun t1 U1 hS1 => ?_
  refine MI.vl hS1 (o := ops14[1]'(by rw [ops14_size]; decide)) 42 (.pointer (some ⟨g, 0, none⟩)) rfl rfl rfl (by omega) (by kernel_rfl) (fun T => fld14 ⟨t1, []⟩ _ g (hS1.ev (by simp [setS, L2]))) fun t2 U2 hS2 => ?_
  refine MI.vl hS2 (o := ops14[2]'(by rw [ops14_size]; decide)) 43 (.slice p n c) rfl rfl rfl (by omega) (by kernel_rfl) (fun T => ld14 ⟨t2, []⟩ _ ⟨g, 0, none⟩ _ (hS2.ev (by simp [setS, L2])) hg) fun t3 U3 hS3 => ?_
  obtain ⟨wa, hwa⟩ : ∃ wa, wa = onT (onT (onT w U1) U2) U3 := ⟨_, rfl⟩
  have ha : wa.heap = w.heap := by rw [hwa]; rfl
  rw [← hwa]
  clear hwa
  refine MI.ow hS3 (o := ops14[3]'(by rw [ops14_size]; decide)) 44 rfl rfl rfl (by omega) (by kernel_rfl) fun T => ?_
  refine ⟨.slice (some ⟨w.heap.size, 0, none⟩) 1 1, (retape wa T).alloc (.cells #[.slice p n c] 30 (0, 0)), ?_, fun t4 hS4 => ?_⟩
  · have := build14 ⟨t3, []⟩ (retape wa T) p n c (hS3.ev (by simp [setS, L2]))
    have e : (retape wa T).heap.size = w.heap.size := by show wa.heap.size = _; rw [ha]
    rw [e] at this
    exact this
  obtain ⟨wb, hwb⟩ : ∃ wb, wb = (retape wa T).alloc (.cells #[.slice p n c] 30 (0, 0)) := ⟨_, rfl⟩
  have hB2 : wb.heap = w.heap.push (.cells #[.slice p n c] 30 (0, 0)) := by rw [hwb, ← ha]; rfl
  rw [← hwb]
  clear hwb
  have gB : wb.heap[w.heap.size]? = some (.cells #[.slice p n c] 30 (0, 0)) := by rw [hB2, Array.getElem?_push]; simp
  have oB : ∀ x, x < w.heap.size → wb.heap[x]? = w.heap[x]? := fun x hx => by rw [hB2, Array.getElem?_push, if_neg (by omega)]
  have sB : w.heap.size ≤ wb.heap.size := by rw [hB2]; simp
  have OB := owns_old hO oB
  refine MI.ow hS4 (o := ops14[4]'(by rw [ops14_size]; decide)) 45 rfl rfl rfl (by omega) (by kernel_rfl) fun T2 => ?_
  obtain ⟨i, hi, hs, hby, hz⟩ := info30
  obtain ⟨v', w', r1, r2, r3, r4⟩ := run_app (P := Try.prog) (e := Act.eval ⟨t4, []⟩) (w := retape wb T2) (o := ops14[4]'(by rw [ops14_size]; decide)) (x := .tmp 41) (y := .tmp 44) (ty := 29) (el := 30) rfl Try.underlying29 hi hz hs hby rfl (by omega) B fv rs.length rs OB
    ⟨w.heap.size, 0, none⟩ 1 1 [.slice p n c] rfl (fun j u hj => by
      cases j with
      | zero => simp at hj; subst hj; exact cell_is (w := retape wb T2) gB rfl
      | succ j => simp at hj) (fun u hu => by simp at hu; subst hu; rfl) (by omega) (Nat.le_trans hB sB) (hS4.ev (by simp [setS, L2])) (hS4.ev (by simp [setS, L2]))
  refine ⟨v', w', r1, fun t5 hS5 => ?_⟩
  refine MI.mv hS5 (o := ops14[5]'(by rw [ops14_size]; decide)) 45 7 v' rfl (.inr rfl) rfl rfl (by omega) (by simp [setS, L2]) fun t6 U6 hS6 => ?_
  refine MI.regE ?_
  refine K t6 (onT w' U6) v' (hS6.sub ?_) r2 ?_ ?_
  · simp [setS, L2]
  · refine ⟨Nat.le_trans sB r3.size, fun x h1 h2 => ?_⟩
    exact (r3.block x (Nat.lt_of_lt_of_le h1 sB) h2).trans (oB x h1)
  · rcases r4 with h | h
    · exact .inl h
    · refine .inr fun x hx => ?_
      rw [h] at hx
      cases hx
      exact sB

theorem told15_mi (t : Array Value) (w : World) (B : Nat) (l0 v fv cv : Value) (m j g : Nat) (c : Int) (rs : List Value) (hS : Sl t 61 ((11, .pointer (some ⟨g, 0, none⟩)) :: L2 l0 v fv cv m j))
    (hg : w.cell? ⟨g, 1, none⟩ = some (.int .i64 c)) (hO : w.ownsRow B 24 1 cv rs.length rs) (hB : B ≤ w.heap.size) (hn : rs.length ≤ 1000)
    (K : ∀ (t' : Array Value) (w' : World) (cv' : Value), Sl t' 61 ((11, .pointer (some ⟨g, 0, none⟩)) :: L2 l0 v fv cv' m j) → w'.ownsRow B 24 1 cv' (rs.length + 1) (rs ++ [.int .i64 c]) → Gr cv.ownBlock w w' →
      (cv'.ownBlock = cv.ownBlock ∨ ∀ x, cv'.ownBlock = some x → w.heap.size ≤ x) → MI Try.prog S0 V0 ρ σ (bare 30 t') [] k cs w') : MI Try.prog S0 V0 ρ σ (bare 30 t) [] (.code code15 :: k) cs w := by
  rw [code15_is]
  refine MI.reg (r := [0, 1, 2, 3, 4, 5]) (by rw [ops15_size]; rfl) ?_
  refine MI.mv hS (o := ops15[0]'(by rw [ops15_size]; decide)) 8 46 cv rfl (.inl rfl) rfl rfl (by omega) (by simp [L2]) fun t1 U1 hS1 => ?_
  refine MI.vl hS1 (o := ops15[1]'(by rw [ops15_size]; decide)) 47 (.pointer (some ⟨g, 1, none⟩)) rfl rfl rfl (by omega) (by kernel_rfl) (fun T => fld15 ⟨t1, []⟩ _ g (hS1.ev (by simp [setS, L2]))) fun t2 U2 hS2 => ?_
  refine MI.vl hS2 (o := ops15[2]'(by rw [ops15_size]; decide)) 48 (.int .i64 c) rfl rfl rfl (by omega) (by kernel_rfl) (fun T => ld15 ⟨t2, []⟩ _ ⟨g, 1, none⟩ _ (hS2.ev (by simp [setS, L2])) hg) fun t3 U3 hS3 => ?_
  obtain ⟨wa, hwa⟩ : ∃ wa, wa = onT (onT (onT w U1) U2) U3 := ⟨_, rfl⟩
  have ha : wa.heap = w.heap := by rw [hwa]; rfl
  rw [← hwa]
  clear hwa
  refine MI.ow hS3 (o := ops15[3]'(by rw [ops15_size]; decide)) 49 rfl rfl rfl (by omega) (by kernel_rfl) fun T => ?_
  refine ⟨.slice (some ⟨w.heap.size, 0, none⟩) 1 1, (retape wa T).alloc (.cells #[.int .i64 c] 24 (0, 0)), ?_, fun t4 hS4 => ?_⟩
  · have := build15 ⟨t3, []⟩ (retape wa T) c (hS3.ev (by simp [setS, L2]))
    have e : (retape wa T).heap.size = w.heap.size := by show wa.heap.size = _; rw [ha]
    rw [e] at this
    exact this
  obtain ⟨wb, hwb⟩ : ∃ wb, wb = (retape wa T).alloc (.cells #[.int .i64 c] 24 (0, 0)) := ⟨_, rfl⟩
  have hB2 : wb.heap = w.heap.push (.cells #[.int .i64 c] 24 (0, 0)) := by rw [hwb, ← ha]; rfl
  rw [← hwb]
  clear hwb
  have gB : wb.heap[w.heap.size]? = some (.cells #[.int .i64 c] 24 (0, 0)) := by rw [hB2, Array.getElem?_push]; simp
  have oB : ∀ x, x < w.heap.size → wb.heap[x]? = w.heap[x]? := fun x hx => by rw [hB2, Array.getElem?_push, if_neg (by omega)]
  have sB : w.heap.size ≤ wb.heap.size := by rw [hB2]; simp
  have OB := owns_old hO oB
  refine MI.ow hS4 (o := ops15[4]'(by rw [ops15_size]; decide)) 50 rfl rfl rfl (by omega) (by kernel_rfl) fun T2 => ?_
  obtain ⟨i, hi, hs, hby, hz⟩ := info24
  obtain ⟨v', w', r1, r2, r3, r4⟩ := run_app (P := Try.prog) (e := Act.eval ⟨t4, []⟩) (w := retape wb T2) (o := ops15[4]'(by rw [ops15_size]; decide)) (x := .tmp 46) (y := .tmp 49) (ty := 47) (el := 24) rfl Try.underlying47 hi hz hs hby rfl (by omega) B cv rs.length rs OB
    ⟨w.heap.size, 0, none⟩ 1 1 [.int .i64 c] rfl (fun j u hj => by
      cases j with
      | zero => simp at hj; subst hj; exact cell_is (w := retape wb T2) gB rfl
      | succ j => simp at hj) (fun u hu => by simp at hu; subst hu; rfl) (by omega) (Nat.le_trans hB sB) (hS4.ev (by simp [setS, L2])) (hS4.ev (by simp [setS, L2]))
  refine ⟨v', w', r1, fun t5 hS5 => ?_⟩
  refine MI.mv hS5 (o := ops15[5]'(by rw [ops15_size]; decide)) 50 8 v' rfl (.inr rfl) rfl rfl (by omega) (by simp [setS, L2]) fun t6 U6 hS6 => ?_
  refine MI.regE ?_
  refine K t6 (onT w' U6) v' (hS6.sub ?_) r2 ?_ ?_
  · simp [setS, L2]
  · refine ⟨Nat.le_trans sB r3.size, fun x h1 h2 => ?_⟩
    exact (r3.block x (Nat.lt_of_lt_of_le h1 sB) h2).trans (oB x h1)
  · rcases r4 with h | h
    · exact .inl h
    · refine .inr fun x hx => ?_
      rw [h] at hx
      cases hx
      exact sB

theorem step16_mi (t : Array Value) (w : World) (l0 v fv cv : Value) (m j : Nat) (hS : Sl t 61 (L2 l0 v fv cv m j)) (hj : j ≤ 1000)
    (K : ∀ (t' : Array Value) U, Sl t' 61 (L2 l0 v fv cv m (j + 1)) → MI Try.prog S0 V0 ρ σ (bare 30 t') [] k cs (onT w U)) : MI Try.prog S0 V0 ρ σ (bare 30 t) [] (.code code16 :: k) cs w := by
  rw [code16_is]
  refine MI.reg (r := [0, 1]) (by rw [ops16_size]; rfl) ?_
  refine MI.vl hS (o := ops16[0]'(by rw [ops16_size]; decide)) 51 (.int .i64 ((j : Int) + 1)) rfl rfl rfl (by omega) (by kernel_rfl) (fun T => run_addi (x := .tmp 35) (y := .const (.int .i64 1)) rfl j 1 (hS.ev (by simp [L2])) rfl (by rw [IntKind.wrap_i64]; omega)) fun t1 U1 hS1 => ?_
  refine MI.mv hS1 (o := ops16[1]'(by rw [ops16_size]; decide)) 51 35 (.int .i64 ((j : Int) + 1)) rfl (.inl rfl) rfl rfl (by omega) (by simp [setS, L2]) fun t2 U2 hS2 => ?_
  refine MI.regE ?_
  refine K t2 U2 (hS2.sub ?_)
  simp [setS, L2]
end Go.Proofs.Ytcobehkadhcjiaa
