/-
  Goroutines among others: part 19 of what the law's own text rests on.
-/
import Derived.Test.YtcobehkadhcjiaaCb14
import Derived.Test.YtcobehkadhcjiaaCb18
/-
  crew.mergePairs: what was told, and rows that grow beside it.
-/
namespace Go.Proofs.Ytcobehkadhcjiaa
open Go Go.Conc Go.RowKit Go.Sort

theorem owns_hear {w w1 : World} {base e size n : Nat} {v : Value} {xs : List Value} (h : w.ownsRow base e size v n xs) (ho : ∀ x, base ≤ x → x < w.heap.size → w1.heap[x]? = w.heap[x]?) : w1.ownsRow base e size v n xs := by
  refine ⟨h.1, ?_⟩
  rcases h.2 with h0 | ⟨g, cap, cur, e1, hB, hb, h3⟩
  · exact .inl h0
  · exact .inr ⟨g, cap, cur, e1, hB, (ho g hB (Array.getElem?_eq_some_iff.1 hb).1).trans hb, h3⟩
theorem owns_gr {F : Option Nat} {w w1 : World} {base e size n : Nat} {v : Value} {xs : List Value} (h : w.ownsRow base e size v n xs) (hg : Gr F w w1) (hF : ∀ x, v.ownBlock = some x → some x ≠ F) : w1.ownsRow base e size v n xs := by
  refine ⟨h.1, ?_⟩
  rcases h.2 with h0 | ⟨g, cap, cur, e1, hB, hb, h3⟩
  · exact .inl h0
  · exact .inr ⟨g, cap, cur, e1, hB, (hg.block g (Array.getElem?_eq_some_iff.1 hb).1 (hF g (by rw [e1]; rfl))).trans hb, h3⟩
theorem owns_two {w : World} {b1 b2 e1 e2 s1 s2 n1 n2 : Nat} {v1 v2 : Value} {xs ys : List Value} (h : w.ownsRow b1 e1 s1 v1 n1 xs) (k : w.ownsRow b2 e2 s2 v2 n2 ys) (he : e1 ≠ e2) : ∀ x, v1.ownBlock = some x → some x ≠ v2.ownBlock := fun x hx hy => by
  rcases h.2 with ⟨h0, _⟩ | ⟨g, cap, cur, q1, _, hb, _⟩
  · rw [h0] at hx; cases hx
  rcases k.2 with ⟨h0, _⟩ | ⟨g', cap', cur', q1', _, hb', _⟩
  · rw [h0] at hy; cases hy
  rw [q1] at hx
  rw [q1'] at hy
  cases hx
  cases hy
  rw [hb] at hb'
  cases hb'
  exact he rfl

theorem seg_gr {F : Option Nat} {w w1 : World} {v : Value} {l : List Plain.En} (s : SegN w v l) (h : Gr F w w1) (ha : l = [] ∨ ∀ x, v.ownBlock = some x → some x ≠ F) : SegN w1 v l := by
  rcases s with ⟨e, p, c, k⟩ | ⟨b, off, c, e, hc, k⟩
  · exact .inl ⟨e, p, c, k⟩
  · refine .inr ⟨b, off, c, e, hc, fun j hj => ?_⟩
    have hb := (k j hj).lt
    have hn : some b ≠ F := by
      rcases ha with rfl | ha
      · exact absurd hj (by simp)
      · exact ha b (by rw [e]; rfl)
    have hc' : ∀ o, w1.cell? ⟨b, o, none⟩ = w.cell? ⟨b, o, none⟩ := fun o => World.cell?_of_block (h.block b hb hn)
    obtain ⟨k0, k1, k2, k3, k4⟩ := k j hj
    exact ⟨by rw [hc']; exact k0, by rw [hc']; exact k1, by rw [hc']; exact k2, by rw [hc']; exact k3, by rw [hc']; exact k4⟩

/-- A list that was told: it lies apart from the two rows that grow. -/
structure Tl (w : World) (F C : Option Nat) (r : Value) (l : List Plain.En) : Prop where
  seg : SegN w r l
  slv : Slv w.heap.size r
  ap : l = [] ∨ ∀ x, r.ownBlock = some x → some x ≠ F ∧ some x ≠ C
theorem Slv.lt {s : Nat} {v : Value} (h : Slv s v) (x : Nat) (hx : v.ownBlock = some x) : x < s := by
  cases v <;> try (simp [Value.ownBlock] at hx)
  rename_i a n c
  cases a with
  | none => cases hx
  | some a => cases hx; exact h
theorem Tl.hear {w w1 : World} {F C : Option Nat} {r : Value} {l : List Plain.En} (h : Tl w F C r l) (k : Keeps w w1) : Tl w1 F C r l := ⟨h.seg.keep k, h.slv.mono k.size, h.ap⟩
theorem Tl.toF {w w1 : World} {F F' C : Option Nat} {r : Value} {l : List Plain.En} (h : Tl w F C r l) (k : Gr F w w1) (hF : F' = F ∨ ∀ x, F' = some x → w.heap.size ≤ x) : Tl w1 F' C r l := by
  refine ⟨seg_gr h.seg k (h.ap.imp_right fun h x hx => (h x hx).1), h.slv.mono k.size, h.ap.imp_right fun hap x hx => ⟨?_, (hap x hx).2⟩⟩
  rcases hF with rfl | hF
  · exact (hap x hx).1
  · intro e
    have := hF x e.symm
    have := h.slv.lt x hx
    omega
theorem Tl.toC {w w1 : World} {F C C' : Option Nat} {r : Value} {l : List Plain.En} (h : Tl w F C r l) (k : Gr C w w1) (hC : C' = C ∨ ∀ x, C' = some x → w.heap.size ≤ x) : Tl w1 F C' r l := by
  refine ⟨seg_gr h.seg k (h.ap.imp_right fun h x hx => (h x hx).2), h.slv.mono k.size, h.ap.imp_right fun hap x hx => ⟨(hap x hx).1, ?_⟩⟩
  rcases hC with rfl | hC
  · exact (hap x hx).2
  · intro e
    have := hC x e.symm
    have := h.slv.lt x hx
    omega
theorem segN_form {w : World} {r : Value} {l : List Plain.En} (hs : SegN w r l) : ∃ p n cc, r = .slice p n cc := by
  rcases hs with ⟨_, p, cc, e⟩ | ⟨bb, off, cc, e, _⟩
  · exact ⟨p, 0, cc, e⟩
  · exact ⟨_, _, cc, e⟩

/-- What the j-th worker tells. -/
def tR (ls : List (List Plain.En)) (j : Nat) : List Plain.En := Plain.mergeR (ls.getD (2 * j) []) (ls.getD (2 * j + 1) [])
def tE (ls : List (List Plain.En)) (j : Nat) : Nat := Plain.mergeE (ls.getD (2 * j) []) (ls.getD (2 * j + 1) [])
def tEs (ls : List (List Plain.En)) (j : Nat) : List Value := (List.range j).map fun i => .int .i64 (tE ls i : Nat)
theorem tEs_snoc (ls : List (List Plain.En)) (j : Nat) : tEs ls (j + 1) = tEs ls j ++ [.int .i64 (tE ls j : Nat)] := by simp [tEs, List.range_succ]
theorem tEs_length (ls : List (List Plain.En)) (j : Nat) : (tEs ls j).length = j := by simp [tEs]

/-- At the second loop's head: j are heard. -/
structure St2 (B m : Nat) (ls : List (List Plain.En)) (chs : List Nat) (v fv cv : Value) (w : World) (j : Nat) (rs : List Value) : Prop where
  size : B ≤ w.heap.size
  len : rs.length = j
  rowW : w.ownsRow B 95 1 v m (chv chs)
  rowF : w.ownsRow B 30 1 fv j rs
  rowC : w.ownsRow B 24 1 cv j (tEs ls j)
  told : ∀ i, i < j → ∃ r, rs[i]? = some r ∧ Tl w fv.ownBlock cv.ownBlock r (tR ls i)

variable [Shift]
set_option maxHeartbeats 400000 in
theorem hear2_mi {post : Value → World → Prop} {k : List Item} {cs : List Frame} {B m : Nat} {ls : List (List Plain.En)} {chs : List Nat} {w0 : World} {l : List (Nat × Spec)} (h0 : w0.heap.size = B) (hm : m ≤ 200) (t : Array Value) (w : World) (l0 v fv cv : Value) (c j : Nat) (rs : List Value)
    (hc : chs[j]? = some c) (hj : j < m) (hS : Sl t 61 (L2 l0 v fv cv m j)) (h : St2 B m ls chs v fv cv w j rs)
    (K : ∀ (t' : Array Value) (w' : World) (fv' cv' : Value) (rs' : List Value), Sl t' 61 (L2 l0 v fv' cv' m j) → St2 B m ls chs v fv' cv' w' (j + 1) rs' → KeepB B w w' → (l ≠ [] → Ex B w w') → (l = [] → Ex B (thaw w0 w) w') → MI Try.prog S0 V0 (.main post) ⟨phL w0 l, none, l⟩ (bare 30 t') [] k cs w') :
    MI Try.prog S0 V0 (.main post) ⟨some w0, none, (c, specM (ls.getD (2 * j) []) (ls.getD (2 * j + 1) [])) :: l⟩ (bare 30 t) [] (.code hear2 :: k) cs w := by
  rw [hear2_is]
  obtain ⟨g0, cap0, cur0, rfl, hB0, hb0, hle0, _, hsz0, htk0⟩ : ∃ g cap cur, v = .slice (some ⟨g, 0, none⟩) m cap ∧ B ≤ g ∧ w.heap[g]? = some (.cells cur 95 (0, 0)) ∧ m ≤ cap ∧ cap ≤ maxLen ∧ cur.size = cap * 1 ∧ cur.toList.take (m * 1) = chv chs := by
    rcases h.rowW.2 with ⟨_, e⟩ | q
    · omega
    · exact q
  have hcell : w.cell? ⟨g0, 0 + j, none⟩ = some (.chan (some c)) := by
    rw [Nat.zero_add]
    have := h.rowW.cellAt j (by omega)
    rw [this]
    simp [chv, hc]
  refine MI.seq (read12_mi t w l0 fv cv m j g0 cap0 c hj hcell hS fun t1 U1 hS1 => ?_)
  refine MI.seq (hear_mi (ls.getD (2 * j) []) (ls.getD (2 * j + 1) []) t1 (onT w U1) hS1.size (hS1.get (by simp)) fun t2 w2 r g z2 o2 e11 hg gb en fr kp nb xn xe => ?_)
  obtain ⟨p, n, cc, rfl⟩ := segN_form en.seg
  have hS2 : Sl t2 61 ((11, .pointer (some ⟨g, 0, none⟩)) :: L2 l0 (.slice (some ⟨g0, 0, none⟩) m cap0) fv cv m j) := by
    refine ⟨z2, fun q hq => ?_⟩
    rcases List.mem_cons.1 hq with rfl | hq
    · exact e11
    · have : q.1 ≠ 11 ∧ q.1 ≠ 39 ∧ q.1 ≠ 40 := by
        simp only [L2, List.mem_cons, List.not_mem_nil, or_false] at hq
        rcases hq with rfl | rfl | rfl | rfl | rfl | rfl | rfl <;> simp
      rw [o2 _ this.1 this.2.1 this.2.2]
      exact hS1.at_ q (List.mem_cons_of_mem _ hq)
  have hb : ∀ x, B ≤ x → x < w.heap.size → w2.heap[x]? = w.heap[x]? := fun x h1 h2 => nb x (by omega) h2
  have rW := owns_hear h.rowW hb
  have rF := owns_hear h.rowF hb
  have rC := owns_hear h.rowC hb
  have kp' : Keeps w w2 := ⟨kp.size, kp.cell, kp.uf⟩
  have s2 : B ≤ w2.heap.size := Nat.le_trans h.size kp.size
  have c0 : w2.cell? ⟨g, 0, none⟩ = some (.slice p n cc) := cell_is gb rfl
  have ltF := h.rowF.lt
  have ltC := h.rowC.lt
  refine MI.seq (told14_mi t2 w2 B l0 _ fv cv m j g p n cc rs hS2 c0 (by rw [h.len]; exact rF) s2 (by rw [h.len]; omega) fun t3 w3 fv3 hS3 r3 g3 f3 => ?_)
  have gF : some g ≠ fv.ownBlock := fun e => by
    have := (ltF g e.symm).2
    have : w.heap.size ≤ g := hg
    omega
  have gb3 : w3.heap[g]? = some (.cells #[.slice p n cc, .int .i64 (tE ls j : Nat)] 98 (0, 0)) := (g3.block g (Array.getElem?_eq_some_iff.1 gb).1 gF).trans gb
  have c1 : w3.cell? ⟨g, 1, none⟩ = some (.int .i64 (tE ls j : Nat)) := cell_is gb3 rfl
  have rW3 := owns_gr rW g3 (owns_two rW rF (by decide))
  have rC3 := owns_gr rC g3 (owns_two rC rF (by decide))
  have s3 : B ≤ w3.heap.size := Nat.le_trans s2 g3.size
  refine told15_mi t3 w3 B l0 _ fv3 cv m j g (tE ls j : Nat) (tEs ls j) hS3 c1 (by rw [tEs_length]; exact rC3) s3 (by rw [tEs_length]; omega) fun t4 w4 cv4 hS4 r4 g4 f4 => ?_
  rw [h.len] at r3
  rw [tEs_length, ← tEs_snoc] at r4
  have rW4 := owns_gr rW3 g4 (owns_two rW3 rC3 (by decide))
  have rF4 := owns_gr r3 g4 (owns_two r3 rC3 (by decide))
  have old : ∀ i, i < j → ∃ r, rs[i]? = some r ∧ Tl w4 fv3.ownBlock cv4.ownBlock r (tR ls i) := fun i hi => by
    obtain ⟨r, q1, q2⟩ := h.told i hi
    exact ⟨r, q1, ((q2.hear kp').toF g3 f3).toC g4 f4⟩
  have new : Tl w4 fv3.ownBlock cv4.ownBlock (.slice p n cc) (tR ls j) := by
    have : Tl w2 fv.ownBlock cv.ownBlock (.slice p n cc) (tR ls j) := by
      refine ⟨en.seg, en.slv, fr.imp_right fun q x hx => ?_⟩
      have q1 : w.heap.size ≤ x := q x hx
      exact ⟨fun e => by have := (ltF x e.symm).2; omega, fun e => by have := (ltC x e.symm).2; omega⟩
    exact (this.toF g3 f3).toC g4 f4
  have x34 : Ex B w2 w4 := (g3.ex s2 fun x hx => (rF.lt x hx).1).trans (g4.ex s3 fun x hx => (rC3.lt x hx).1)
  refine K t4 w4 fv3 cv4 (rs ++ [.slice p n cc]) (hS4.sub fun q hq => List.mem_cons_of_mem _ hq) ⟨Nat.le_trans s3 g4.size, by simp [h.len], rW4, rF4, r4, fun i hi => ?_⟩ ?_ ?_ ?_
  · by_cases hij : i < j
    · obtain ⟨r, q1, q2⟩ := old i hij
      exact ⟨r, by rw [List.getElem?_append_left (by rw [h.len]; exact hij)]; exact q1, q2⟩
    · have : i = j := by omega
      subst this
      exact ⟨_, by rw [← h.len]; simp, new⟩
  · exact ((kp'.toB h.size).trans (g3.toB s2 fun x hx => (rF.lt x hx).1)).trans (g4.toB s3 fun x hx => (rC3.lt x hx).1)
  · exact fun hl => (show Ex B w w2 from fun x hx => xn hl x (Nat.lt_of_lt_of_le hx h.size)).trans x34
  · exact fun hl => (show Ex B (thaw w0 w) w2 from fun x hx => (xe hl x (Nat.lt_of_lt_of_le hx h.size)).trans (by rw [thaw_heap, thaw_heap]; rfl)).trans x34

theorem loop2_mi {post : Value → World → Prop} {k : List Item} {cs : List Frame} {B m : Nat} {ls : List (List Plain.En)} {chs : List Nat} {w0 : World} (h0 : w0.heap.size = B) (hm : m ≤ 200) (l0 v : Value) :
    ∀ (cr : List Nat) (t : Array Value) (w : World) (fv cv : Value) (j : Nat) (rs : List Value), chs.drop j = cr → chs.length = m → j ≤ m → Sl t 61 (L2 l0 v fv cv m j) → St2 B m ls chs v fv cv w j rs → Uf B w0 w → (cr = [] → Ex B w0 w) →
    (∀ (t' : Array Value) (w' : World) (fv' cv' : Value) (rs' : List Value), Sl t' 61 (L2 l0 v fv' cv' m m) → St2 B m ls chs v fv' cv' w' m rs' → KeepB B w w' → Ex B w0 w' → MI Try.prog S0 V0 (.main post) ⟨none, none, []⟩ (bare 30 t') [] k cs w') →
    MI Try.prog S0 V0 (.main post) ⟨phL w0 (prs ls j cr), none, prs ls j cr⟩ (bare 30 t) [] (.code round2 :: .inLoop round2 :: .inBlock 2 :: k) cs w := by
  intro cr
  induction cr with
  | nil =>
    intro t w fv cv j rs hd hl hj hS h hu hx K
    have ej : j = m := by
      have := List.drop_eq_nil_iff.1 hd
      omega
    subst ej
    rw [round2_is]
    refine MI.seq (head2_mi t w l0 v fv cv j j hS fun t1 U1 hS1 => ?_)
    refine MI.seq ?_
    rw [cond2_is]
    refine MI.cond (q := decide (j < j)) rfl (hS1.ev (by simp)) ?_
    rw [decide_eq_false (by omega)]
    refine MI.ctl (k1 := k) (fun _ _ _ _ _ => stepG_exit rfl) ?_
    exact K t1 (onT w U1) fv cv rs (hS1.sub fun q hq => List.mem_cons_of_mem _ hq) ⟨h.size, h.len, h.rowW, h.rowF, h.rowC, fun i hi => by
      obtain ⟨r, q1, q2⟩ := h.told i hi
      exact ⟨r, q1, q2.hear (Keeps.onT w U1)⟩⟩ (KeepB.onT B w U1) (hx rfl)
  | cons c cr ih =>
    intro t w fv cv j rs hd hl hj hS h hu hx K
    have hc : chs[j]? = some c := by
      have := congrArg (fun l => l[0]?) hd
      simpa using this
    have hlt : j < m := by
      have := (List.getElem?_eq_some_iff.1 hc).1
      omega
    rw [round2_is]
    refine MI.seq (head2_mi t w l0 v fv cv m j hS fun t1 U1 hS1 => ?_)
    refine MI.seq ?_
    rw [cond2_is]
    refine MI.cond (q := decide (j < m)) rfl (hS1.ev (by simp)) ?_
    rw [decide_eq_true hlt]
    refine MI.ctl (k1 := .code (.seq (.block 3 hear2) code16) :: .inLoop round2 :: .inBlock 2 :: k) (fun _ _ _ _ _ => stepG_skip) ?_
    refine MI.seq ?_
    refine MI.ctl (k1 := .code hear2 :: .inBlock 3 :: .code code16 :: .inLoop round2 :: .inBlock 2 :: k) (fun _ _ _ _ _ => stepG_block) ?_
    have h1 : St2 B m ls chs v fv cv (onT w U1) j rs := ⟨h.size, h.len, h.rowW, h.rowF, h.rowC, fun i hi => by
      obtain ⟨r, q1, q2⟩ := h.told i hi
      exact ⟨r, q1, q2.hear (Keeps.onT w U1)⟩⟩
    refine hear2_mi (l := prs ls (j + 1) cr) h0 hm t1 (onT w U1) l0 v fv cv c j rs hc hlt (hS1.sub fun q hq => List.mem_cons_of_mem _ hq) h1 fun t2 w2 fv2 cv2 rs2 hS2 h2 k2 xn xe => ?_
    refine MI.ctl (k1 := .code code16 :: .inLoop round2 :: .inBlock 2 :: k) (fun _ _ _ _ _ => stepG_inBlock) ?_
    refine step16_mi t2 w2 l0 v fv2 cv2 m j hS2 (by omega) fun t3 U3 hS3 => ?_
    refine MI.ctl (k1 := .code round2 :: .inLoop round2 :: .inBlock 2 :: k) (fun _ _ _ _ _ => stepG_inLoop) ?_
    have h3 : St2 B m ls chs v fv2 cv2 (onT w2 U3) (j + 1) rs2 := ⟨h2.size, h2.len, h2.rowW, h2.rowF, h2.rowC, fun i hi => by
      obtain ⟨r, q1, q2⟩ := h2.told i hi
      exact ⟨r, q1, q2.hear (Keeps.onT w2 U3)⟩⟩
    have hnil : cr = [] → prs ls (j + 1) cr = [] := fun e => by rw [e]; rfl
    have hne : cr ≠ [] → prs ls (j + 1) cr ≠ [] := fun e => by
      cases cr with
      | nil => exact absurd rfl e
      | cons _ _ => simp [prs]
    have x2 : cr = [] → Ex B w0 w2 := fun e => (thaw_ex (w := onT w U1) hu).trans (xe (hnil e))
    have u2 : Uf B w0 w2 := by
      by_cases e : cr = []
      · exact (x2 e).uf
      · exact hu.trans (xn (hne e)).uf
    refine ih t3 (onT w2 U3) fv2 cv2 (j + 1) rs2 ?_ hl (by omega) hS3 h3 u2 x2 fun t4 w4 fv4 cv4 rs4 hS4 h4 k4 x4 => K t4 w4 fv4 cv4 rs4 hS4 h4 (((KeepB.onT B w U1).trans k2).trans ((KeepB.onT B w2 U3).trans k4)) x4
    have := congrArg (List.drop 1) hd
    simpa [List.drop_drop] using this
end Go.Proofs.Ytcobehkadhcjiaa

/-
  crew.firstRefusal; a row of 61 slots, slot by slot.
-/
namespace Go.Proofs.Ytcobehkadhcjiaa
open Go Go.Conc Go.RowKit Go.Sort Go.Shelf

theorem cons_of {n : Nat} {l : List Value} (h : l.length = n + 1) : ∃ a l', l = a :: l' ∧ l'.length = n := by
  cases l with
  | nil => simp at h
  | cons a l => exact ⟨a, l, rfl, by simpa using h⟩
theorem lit61 {t : Array Value} (h : t.size = 61) : ∃ a0 a1 a2 a3 a4 a5 a6 a7 a8 a9 a10 a11 a12 a13 a14 a15 a16 a17 a18 a19 a20 a21 a22 a23 a24 a25 a26 a27 a28 a29 a30 a31 a32 a33 a34 a35 a36 a37 a38 a39 a40 a41 a42 a43 a44 a45 a46 a47 a48 a49 a50 a51 a52 a53 a54 a55 a56 a57 a58 a59 a60 : Value, t = #[a0, a1, a2, a3, a4, a5, a6, a7, a8, a9, a10, a11, a12, a13, a14, a15, a16, a17, a18, a19, a20, a21, a22, a23, a24, a25, a26, a27, a28, a29, a30, a31, a32, a33, a34, a35, a36, a37, a38, a39, a40, a41, a42, a43, a44, a45, a46, a47, a48, a49, a50, a51, a52, a53, a54, a55, a56, a57, a58, a59, a60] := by
  obtain ⟨l⟩ := t
  have h0 : l.length = 61 := h
  obtain ⟨a0, l0, e0, h1⟩ := cons_of h0
  obtain ⟨a1, l1, e1, h2⟩ := cons_of h1
  obtain ⟨a2, l2, e2, h3⟩ := cons_of h2
  obtain ⟨a3, l3, e3, h4⟩ := cons_of h3
  obtain ⟨a4, l4, e4, h5⟩ := cons_of h4
  obtain ⟨a5, l5, e5, h6⟩ := cons_of h5
  obtain ⟨a6, l6, e6, h7⟩ := cons_of h6
  obtain ⟨a7, l7, e7, h8⟩ := cons_of h7
  obtain ⟨a8, l8, e8, h9⟩ := cons_of h8
  obtain ⟨a9, l9, e9, h10⟩ := cons_of h9
  obtain ⟨a10, l10, e10, h11⟩ := cons_of h10
  obtain ⟨a11, l11, e11, h12⟩ := cons_of h11
  obtain ⟨a12, l12, e12, h13⟩ := cons_of h12
  obtain ⟨a13, l13, e13, h14⟩ := cons_of h13
  obtain ⟨a14, l14, e14, h15⟩ := cons_of h14
  obtain ⟨a15, l15, e15, h16⟩ := cons_of h15
  obtain ⟨a16, l16, e16, h17⟩ := cons_of h16
  obtain ⟨a17, l17, e17, h18⟩ := cons_of h17
  obtain ⟨a18, l18, e18, h19⟩ := cons_of h18
  obtain ⟨a19, l19, e19, h20⟩ := cons_of h19
  obtain ⟨a20, l20, e20, h21⟩ := cons_of h20
  obtain ⟨a21, l21, e21, h22⟩ := cons_of h21
  obtain ⟨a22, l22, e22, h23⟩ := cons_of h22
  obtain ⟨a23, l23, e23, h24⟩ := cons_of h23
  obtain ⟨a24, l24, e24, h25⟩ := cons_of h24
  obtain ⟨a25, l25, e25, h26⟩ := cons_of h25
  obtain ⟨a26, l26, e26, h27⟩ := cons_of h26
  obtain ⟨a27, l27, e27, h28⟩ := cons_of h27
  obtain ⟨a28, l28, e28, h29⟩ := cons_of h28
  obtain ⟨a29, l29, e29, h30⟩ := cons_of h29
  obtain ⟨a30, l30, e30, h31⟩ := cons_of h30
  obtain ⟨a31, l31, e31, h32⟩ := cons_of h31
  obtain ⟨a32, l32, e32, h33⟩ := cons_of h32
  obtain ⟨a33, l33, e33, h34⟩ := cons_of h33
  obtain ⟨a34, l34, e34, h35⟩ := cons_of h34
  obtain ⟨a35, l35, e35, h36⟩ := cons_of h35
  obtain ⟨a36, l36, e36, h37⟩ := cons_of h36
  obtain ⟨a37, l37, e37, h38⟩ := cons_of h37
  obtain ⟨a38, l38, e38, h39⟩ := cons_of h38
  obtain ⟨a39, l39, e39, h40⟩ := cons_of h39
  obtain ⟨a40, l40, e40, h41⟩ := cons_of h40
  obtain ⟨a41, l41, e41, h42⟩ := cons_of h41
  obtain ⟨a42, l42, e42, h43⟩ := cons_of h42
  obtain ⟨a43, l43, e43, h44⟩ := cons_of h43
  obtain ⟨a44, l44, e44, h45⟩ := cons_of h44
  obtain ⟨a45, l45, e45, h46⟩ := cons_of h45
  obtain ⟨a46, l46, e46, h47⟩ := cons_of h46
  obtain ⟨a47, l47, e47, h48⟩ := cons_of h47
  obtain ⟨a48, l48, e48, h49⟩ := cons_of h48
  obtain ⟨a49, l49, e49, h50⟩ := cons_of h49
  obtain ⟨a50, l50, e50, h51⟩ := cons_of h50
  obtain ⟨a51, l51, e51, h52⟩ := cons_of h51
  obtain ⟨a52, l52, e52, h53⟩ := cons_of h52
  obtain ⟨a53, l53, e53, h54⟩ := cons_of h53
  obtain ⟨a54, l54, e54, h55⟩ := cons_of h54
  obtain ⟨a55, l55, e55, h56⟩ := cons_of h55
  obtain ⟨a56, l56, e56, h57⟩ := cons_of h56
  obtain ⟨a57, l57, e57, h58⟩ := cons_of h57
  obtain ⟨a58, l58, e58, h59⟩ := cons_of h58
  obtain ⟨a59, l59, e59, h60⟩ := cons_of h59
  obtain ⟨a60, l60, e60, h61⟩ := cons_of h60
  have e61 := List.length_eq_zero_iff.1 h61
  subst e61 e60 e59 e58 e57 e56 e55 e54 e53 e52 e51 e50 e49 e48 e47 e46 e45 e44 e43 e42 e41 e40 e39 e38 e37 e36 e35 e34 e33 e32 e31 e30 e29 e28 e27 e26 e25 e24 e23 e22 e21 e20 e19 e18 e17 e16 e15 e14 e13 e12 e11 e10 e9 e8 e7 e6 e5 e4 e3 e2 e1 e0
  exact ⟨a0, a1, a2, a3, a4, a5, a6, a7, a8, a9, a10, a11, a12, a13, a14, a15, a16, a17, a18, a19, a20, a21, a22, a23, a24, a25, a26, a27, a28, a29, a30, a31, a32, a33, a34, a35, a36, a37, a38, a39, a40, a41, a42, a43, a44, a45, a46, a47, a48, a49, a50, a51, a52, a53, a54, a55, a56, a57, a58, a59, a60, rfl⟩

/-- The first that is not 0. -/
def firstE (l : List Int) : Int := (l.find? fun x => x != 0).getD 0
theorem firstE_hit {l : List Int} {k : Nat} (hk : k < l.length) (h : (l.getD k 0 != 0) = true) (ha : ∀ j, j < k → (l.getD j 0 != 0) = false) : firstE l = l.getD k 0 := by
  induction l generalizing k with
  | nil => simp at hk
  | cons x xs ih =>
    cases k with
    | zero =>
      simp only [List.getD_cons_zero] at h ⊢
      simp [firstE, h]
    | succ k =>
      have h0 := ha 0 (by omega)
      simp only [List.getD_cons_zero] at h0
      simp only [List.getD_cons_succ] at h ⊢
      have := ih (k := k) (by simpa using hk) h fun j hj => by have := ha (j + 1) (by omega); simpa using this
      rw [← this]
      simp only [firstE, List.find?_cons, h0]
theorem firstE_miss {l : List Int} (ha : ∀ j, j < l.length → (l.getD j 0 != 0) = false) : firstE l = 0 := by
  induction l with
  | nil => rfl
  | cons x xs ih =>
    have h0 := ha 0 (by simp)
    simp only [List.getD_cons_zero] at h0
    have := ih fun j hj => by have := ha (j + 1) (by simp; omega); simpa using this
    rw [← this]
    simp only [firstE, List.find?_cons, h0]

set_option maxHeartbeats 2000000 in
theorem refusal_c (b off n c : Nat) (l : List Int) (w : World) (hn : l.length = n) (hbig : n ≤ 1000) (hc : ∀ j, j < n → w.cell? ⟨b, off + j, none⟩ = some (.int .i64 (l.getD j 0))) (hb : 0 < n → b < w.heap.size) :
    Calls Try.prog 24 #[.slice (some ⟨b, off, none⟩) n c] w fun e w' => e = .returned (.int .i64 (firstE l)) ∧ Below w.heap.size w w' := by
  have HC := hid hc
  clear hc
  go_enter Try.func24, Try.ntmps24
  go_wp2
  go_loopg [4, 7] n (fun gg _ s7 wr => ∃ kk : Nat, kk ≤ n ∧ n - kk ≤ gg ∧ s7 = .int .i64 kk ∧ Aside (Below w.heap.size w wr) ∧ Aside (∀ j, j < kk → (l.getD j 0 != 0) = false))
  case atStart => exact ⟨0, Nat.zero_le _, by omega, rfl, Below.refl _ w, fun j hj => absurd hj (Nat.not_lt_zero _)⟩
  case round =>
    obtain ⟨kk, hkk, hg, rfl, BW, A⟩ := hrel
    by_cases hlt : kk < n
    · have hltz : (kk : Int) < (n : Int) := by omega
      have c0 := (BW.out.cell (p := ⟨b, off + kk, none⟩) (hb (by omega))).trans (HC.out kk hlt)
      generalize hy : l.getD kk 0 = y at c0
      have HY : Aside (l.getD kk 0 = y) := hy
      clear hy
      cases hq : y != 0 with
      | true =>
        have hq' : ¬ y = 0 := by simpa using hq
        go_wp2
        go_ret
        refine ⟨?_, BW.out⟩
        rw [firstE_hit (by omega) (by rw [HY.out]; exact hq) A.out, HY.out]
        rfl
      | false =>
        have hq' : y = 0 := by simpa using hq
        subst hq'
        go_wp2
        go_roundg (n - (kk + 1))
        case measure => omega
        case rel =>
          refine ⟨kk + 1, by omega, by omega, by go_num, BW.out, (show Aside _ from fun j hj => ?_)⟩
          by_cases e : j = kk
          · subst e
            rw [HY.out]; rfl
          · exact A.out j (by omega)
    · have hltz : ¬ (kk : Int) < (n : Int) := by omega
      have : kk = n := by omega
      subst this
      go_wp2
      go_ret
      refine ⟨?_, BW.out⟩
      rw [firstE_miss fun j hj => A.out j (by omega)]
      rfl
end Go.Proofs.Ytcobehkadhcjiaa

/-
  crew.mergePairs: its end.
-/
namespace Go.Proofs.Ytcobehkadhcjiaa
open Go Go.Conc Go.RowKit Go.Sort Go.Shelf

section
variable {P : Program} {ops : Array Oper} {Q : Exit → Act → World → Prop} {i : Nat} {rest : List Nat} {t : Array Value} {w : World} {n : Nat} {l : List (Nat × Value)}
theorem wo_mv (hS : Sl t n l) {o : Oper} (s d : Nat) (v : Value) (ho : ops[i]? = some o) (hop : o.op = .move (.tmp s) ∨ o.op = .assign (.tmp s)) (hd : o.dst = some d) (hg : o.guard = none) (hn : d < n) (hm : (s, v) ∈ l)
    (h : ∀ t', Sl t' n (setS d v l) → wpOps P ops Q rest ⟨t', []⟩ w) : wpOps P ops Q (i :: rest) ⟨t, []⟩ w := by
  unfold wpOps
  rw [ho]
  dsimp only
  rw [if_pos (by simp [Region.wanted, hg])]
  left
  have hr : (execOp (Act.eval ⟨t, []⟩) o).run P w = .ok (.value v) w := by
    unfold execOp
    rcases hop with hop | hop <;> rw [hop] <;> simp only [hS.ev hm] <;> rfl
  unfold Oper.wp
  rw [hr, Oper.upon_value, hd]
  exact h _ (hS.put hn v)
theorem wo_call (hS : Sl t n l) {o : Oper} (d : Nat) (f : FuncId) (args : Array Value) (R : Value → World → Prop) (ho : ops[i]? = some o) (hd : o.dst = some d) (hg : o.guard = none) (hn : d < n)
    (hr : (execOp (Act.eval ⟨t, []⟩) o).run P w = .ok (.enter f args) w) (hC : Calls P f args w fun e w' => ∃ v, e = .returned v ∧ R v w')
    (h : ∀ v w' t', R v w' → Sl t' n (setS d v l) → wpOps P ops Q rest ⟨t', []⟩ w') : wpOps P ops Q (i :: rest) ⟨t, []⟩ w := by
  unfold wpOps
  rw [ho]
  dsimp only
  rw [if_pos (by simp [Region.wanted, hg])]
  left
  unfold Oper.wp
  rw [hr, Oper.upon_enter]
  refine hC.mono ?_
  rintro e w' ⟨v, rfl, hR⟩
  dsimp only
  rw [hd]
  exact h v w' _ hR (hS.put hn v)
theorem wo_nil {t : Array Value} (h : Q .normal ⟨t, []⟩ w) : wpOps P ops Q [] ⟨t, []⟩ w := h
end

noncomputable def code17 : Code := seqL (seqR (seqR (seqR tail2)))
noncomputable def ops17 : Array Oper := opsC code17
theorem code17_is : code17 = .region 17 ops17 false := rfl
theorem ops17_size : ops17.size = 11 := by kernel_rfl
theorem ops17_ok : ops17.all (okO Try.prog S0 V0) = true := by kernel_rfl

theorem run_slc {P : Program} {e : Operand → Value} {w : World} {o : Oper} {x y : Operand} {ty el : TypeId} (ho : o.op = .slice ty x (some y) none none) (hu : P.underlying ty = some (.slice el)) (hs : (P.info? el).map (·.size) = some 1) (b off n cap i : Nat)
    (h1 : e x = .slice (some ⟨b, off, none⟩) n cap) (h2 : e y = .int .i64 i) (hi : i ≤ n) (hc : n ≤ cap) : ∃ o', (execOp e o).run P w = .ok (.value (.slice (some ⟨b, o', none⟩) (n - i) (cap - i))) w ∧ (i < n → o' = off + i) := by
  have he : P.elem ty = el := by simp [Program.elem, hu]
  subst he
  have hz : (sizeOf (P.elem ty)).run P w = .ok 1 w := by
    cases hi' : P.info? (P.elem ty) with
    | none => rw [hi'] at hs; cases hs
    | some ie =>
      rw [hi'] at hs
      simp only [Option.map_some, Option.some.injEq] at hs
      simp [sizeOf, typeInfo, hi', hs]
  refine ⟨if cap = i then off else off + i, ?_, fun h => if_neg (by omega)⟩
  unfold execOp
  simp only [ho, h1, h2, Sem.run_bind, Option.map_some, Option.map_none]
  rw [run_sliceAt_slice (P := P) (h := hu), run_slice_l (P := P) (ht := hu) (l := (i : Int)) (h0 := by omega) (h1 := by omega), hz]
  simp only [Result.andThen_ok, Int.toNat_natCast, sliced, Addr.add, Option.map_some]
  by_cases hci : cap = i
  · simp [hci]
  · rw [if_neg hci, if_neg hci]
    by_cases i0 : i = 0
    · subst i0; simp
    · simp [i0]
theorem enter17 (e : Act) (w : World) (v : Value) (h : e.eval (.tmp 59) = v) : (execOp e.eval (ops17[8]'(by rw [ops17_size]; decide))).run Try.prog w = .ok (.enter 24 #[v]) w := by
  have ho : (ops17[8]'(by rw [ops17_size]; decide)).op = Op.call { callee := .value (.func 24), args := #[.tmp 59], argTypes := #[47] } := rfl
  have eg : ∀ args w, (callFunc 24 args).run Try.prog w = .ok (.enter 24 args) w := enters_of Try.func24 (by kernel_rfl) rfl
  have e0 : e.eval (.func 24) = .func (.func 24) #[] #[] := rfl
  unfold execOp
  rw [ho]
  simp [resolve, Deferred.ofValue, invoke, e0, h, eg]
end Go.Proofs.Ytcobehkadhcjiaa

/-
  crew.mergePairs: its end, whole.
-/
namespace Go.Proofs.Ytcobehkadhcjiaa
open Go Go.Conc Go.RowKit Go.Sort Go.Shelf

/-- What a round leaves of n lists, and the first refusal of it. -/
def rdL (ls : List (List Plain.En)) (n : Nat) : List (List Plain.En) := (List.range (n / 2)).map (tR ls) ++ (if n % 2 = 1 then [ls.getD (n - 1) []] else [])
def rdE (ls : List (List Plain.En)) (n : Nat) : Int := firstE ((List.range (n / 2)).map fun i => (tE ls i : Int))

theorem rdL_told {ls : List (List Plain.En)} {n i : Nat} (hi : i < n / 2) : (rdL ls n).getD i [] = tR ls i := by
  unfold rdL
  rw [List.getD_eq_getElem?_getD, List.getElem?_append_left (by simpa using hi)]
  simp [hi]
theorem rdL_last {ls : List (List Plain.En)} {n : Nat} (hn : n % 2 = 1) : (rdL ls n).getD (n / 2) [] = ls.getD (n - 1) [] := by
  unfold rdL
  rw [List.getD_eq_getElem?_getD, List.getElem?_append_right (by simp), if_pos hn]
  simp
theorem rdL_length (ls : List (List Plain.En)) (n : Nat) : (rdL ls n).length = n - n / 2 := by
  unfold rdL
  by_cases h : n % 2 = 1
  · rw [if_pos h]; simp; omega
  · rw [if_neg h]; simp; omega

theorem owns_head {w : World} {B T m : Nat} {v : Value} {xs : List Value} (h : w.ownsRow B T 1 v m xs) (hm : 1 ≤ m) : ∃ g cap, v = .slice (some ⟨g, 0, none⟩) m cap ∧ B ≤ g ∧ m ≤ cap ∧ g < w.heap.size ∧ ∀ j u, xs[j]? = some u → w.cell? ⟨g, 0 + j, none⟩ = some u := by
  rcases h.2 with ⟨_, e⟩ | ⟨g, cap, cur, rfl, q1, q2, q3, q4, q5, q6⟩
  · omega
  · refine ⟨g, cap, rfl, q1, q3, (Array.getElem?_eq_some_iff.1 q2).1, fun j u hj => ?_⟩
    have hlt : j < m * 1 := by rw [← h.1]; exact (List.getElem?_eq_some_iff.1 hj).1
    rw [Nat.zero_add, h.cellAt j hlt]
    exact hj

variable [Shift]
set_option maxHeartbeats 400000 in
theorem end17_mi (hP : OkP Try.prog S0 V0) {post : Value → World → Prop} {k : List Item} {cs : List Frame} {B b off n cap m : Nat} {ls : List (List Plain.En)} {chs : List Nat} (hm : m ≤ 200) (hn : n = 2 * m ∨ n = 2 * m + 1) (hm1 : 1 ≤ m) (hcap : n ≤ cap)
    (t : Array Value) (w : World) (v fv cv : Value) (rs : List Value) (hS : Sl t 61 (L2 (.slice (some ⟨b, off, none⟩) n cap) v fv cv m m)) (h : St2 B m ls chs v fv cv w m rs) (hl : LsB B w b off n ls)
    (K : ∀ (t' : Array Value) (w' : World) (g c' : Nat), t'.size = 61 → t'[2]? = some (.slice (some ⟨g, 0, none⟩) (rdL ls n).length c') → t'[3]? = some (.int .i64 (rdE ls n)) → LsB w'.heap.size w' g 0 (rdL ls n).length (rdL ls n) → (rdL ls n).length ≤ c' → KeepB B w w' → Ex B w w' →
      MI Try.prog S0 V0 (.main post) ⟨none, none, []⟩ (bareR 30 t') [] [] cs w') :
    MI Try.prog S0 V0 (.main post) ⟨none, none, []⟩ (bare 30 t) [] (.code (.seq code17 .ret) :: k) cs w := by
  refine MI.seq ?_
  rw [code17_is]
  refine MI.reg (r := [0, 1, 2, 3, 4, 5, 6, 7, 8, 9, 10]) (by rw [ops17_size]; rfl) ?_
  obtain ⟨gw, cw, rfl, _, _, _, _⟩ := owns_head h.rowW hm1
  refine MI.mv hS (o := ops17[0]'(by rw [ops17_size]; decide)) 7 52 fv rfl (.inl rfl) rfl rfl (by omega) (by simp [L2]) fun t1 U1 hS1 => ?_
  refine MI.mv hS1 (o := ops17[1]'(by rw [ops17_size]; decide)) 0 53 (.slice (some ⟨b, off, none⟩) n cap) rfl (.inl rfl) rfl rfl (by omega) (by simp [setS, L2]) fun t2 U2 hS2 => ?_
  refine MI.mv hS2 (o := ops17[2]'(by rw [ops17_size]; decide)) 4 54 (.slice (some ⟨gw, 0, none⟩) m cw) rfl (.inl rfl) rfl rfl (by omega) (by simp [setS, L2]) fun t3 U3 hS3 => ?_
  refine MI.vl hS3 (o := ops17[3]'(by rw [ops17_size]; decide)) 55 (.int .i64 m) rfl rfl rfl (by omega) (by kernel_rfl) (fun T => run_len (x := .tmp 54) (ty := 94) (el := 95) rfl Try.underlying94 (some ⟨gw, 0, none⟩) m cw (hS3.ev (by simp [setS, L2]))) fun t4 U4 hS4 => ?_
  refine MI.vl hS4 (o := ops17[4]'(by rw [ops17_size]; decide)) 56 (.int .i64 (2 * (m : Int))) rfl rfl rfl (by omega) (by kernel_rfl) (fun T => run_muli (x := .const (.int .i64 2)) (y := .tmp 55) rfl 2 m rfl (hS4.ev (by simp [setS, L2])) (by rw [IntKind.wrap_i64]; omega)) fun t5 U5 hS5 => ?_
  obtain ⟨wa, hwa⟩ : ∃ wa, wa = onT (onT (onT (onT (onT w U1) U2) U3) U4) U5 := ⟨_, rfl⟩
  have ha : wa.heap = w.heap := by rw [hwa]; rfl
  rw [← hwa]
  clear hwa
  refine MI.ow hS5 (o := ops17[5]'(by rw [ops17_size]; decide)) 57 rfl rfl rfl (by omega) (by kernel_rfl) fun T => ?_
  obtain ⟨o', r1, ro⟩ := run_slc (P := Try.prog) (e := Act.eval ⟨t5, []⟩) (w := retape wa T) (o := ops17[5]'(by rw [ops17_size]; decide)) (x := .tmp 53) (y := .tmp 56) (ty := 29) (el := 30) rfl Try.underlying29 (by kernel_rfl) b off n cap (2 * m)
    (hS5.ev (by simp [setS, L2])) ((hS5.ev (v := .int .i64 (2 * (m : Int))) (by simp [setS, L2])).trans (by congr 1)) (by omega) hcap
  refine ⟨_, _, r1, fun t6 hS6 => ?_⟩
  obtain ⟨wb, hwb⟩ : ∃ wb, wb = retape wa T := ⟨_, rfl⟩
  have hb : wb.heap = w.heap := by rw [hwb, ← ha]; rfl
  rw [← hwb]
  clear hwb r1
  have sz : wb.heap.size = w.heap.size := by rw [hb]
  have fR : wb.ownsRow B 30 1 fv m rs := owns_old h.rowF fun x _ => by rw [hb]
  have fC : wb.ownsRow B 24 1 cv m (tEs ls m) := owns_old h.rowC fun x _ => by rw [hb]
  obtain ⟨i, hi, hs, hby, hz⟩ := info30
  -- the last list, if it is alone
  obtain ⟨ys, hyl, hys⟩ : ∃ ys : List Value, ys.length = n - 2 * m ∧ ∀ j u, ys[j]? = some u → j = 0 ∧ n = 2 * m + 1 ∧ w.cell? ⟨b, off + 2 * m, none⟩ = some u ∧ EnB B w u (ls.getD (2 * m) []) := by
    rcases hn with e | e
    · exact ⟨[], by simp; omega, fun j u hj => by simp at hj⟩
    · obtain ⟨u, q1, q2⟩ := hl.at_ (2 * m) (by omega)
      refine ⟨[u], by simp; omega, fun j u' hj => ?_⟩
      cases j with
      | zero => simp at hj; subst hj; exact ⟨rfl, e, q1, q2⟩
      | succ j => simp at hj
  refine MI.ow hS6 (o := ops17[6]'(by rw [ops17_size]; decide)) 58 rfl rfl rfl (by omega) (by kernel_rfl) fun T2 => ?_
  obtain ⟨v', w', r1, r2, r3, r4⟩ := run_app (P := Try.prog) (e := Act.eval ⟨t6, []⟩) (w := retape wb T2) (o := ops17[6]'(by rw [ops17_size]; decide)) (x := .tmp 52) (y := .tmp 57) (ty := 29) (el := 30) rfl Try.underlying29 hi hz hs hby rfl (by omega) B fv m rs fR
    ⟨b, o', none⟩ (n - 2 * m) (cap - 2 * m) ys hyl (fun j u hj => by
      obtain ⟨rfl, e, q1, _⟩ := hys j u hj
      rw [ro (by omega)]
      have : (retape wb T2).cell? ⟨b, off + 2 * m, none⟩ = w.cell? ⟨b, off + 2 * m, none⟩ := cell_heap hb _
      rw [← q1, ← this]
      rfl) (fun u hu => by
      obtain ⟨j, hj⟩ := List.getElem?_of_mem hu
      obtain ⟨_, _, _, q⟩ := hys j u hj
      obtain ⟨p, nn, cc, rfl⟩ := segN_form q.seg
      rfl) (by omega) (by show B ≤ wb.heap.size; rw [sz]; exact h.size) (hS6.ev (by simp [setS, L2])) (hS6.ev (by simp [setS, L2]))
  refine ⟨v', w', r1, fun t7 hS7 => ?_⟩
  refine MI.mv hS7 (o := ops17[7]'(by rw [ops17_size]; decide)) 8 59 cv rfl (.inl rfl) rfl rfl (by omega) (by simp [setS, L2]) fun t8 U8 hS8 => ?_
  have g' : Gr fv.ownBlock w w' := ⟨by rw [← sz]; exact r3.size, fun x h1 h2 => by
    rw [r3.block x (by show x < wb.heap.size; rw [sz]; exact h1) h2]
    show wb.heap[x]? = _
    rw [hb]⟩
  have fC' : w'.ownsRow B 24 1 cv m (tEs ls m) := owns_gr h.rowC g' (owns_two h.rowC h.rowF (by decide))
  obtain ⟨gc, cc, rfl, _, _, glt, gce⟩ := owns_head fC' hm1
  have hlen : (rs ++ ys).length = n - m := by rw [List.length_append, h.len, hyl]; omega
  have r2' : w'.ownsRow B 30 1 v' (n - m) (rs ++ ys) := by rw [show n - m = m + (n - 2 * m) by omega]; exact r2
  obtain ⟨gf, cf, rfl, _, hcf, gflt, gfe⟩ := owns_head r2' (by omega)
  have kB : KeepB B w w' := g'.toB h.size fun x hx => (h.rowF.lt x hx).1
  refine MI.fragR hP ops17_ok fun T3 => ?_
  obtain ⟨wc, hwc⟩ : ∃ wc, wc = retape (onT w' U8) T3 := ⟨_, rfl⟩
  have hc : wc.heap = w'.heap := by rw [hwc]; rfl
  rw [← hwc]
  clear hwc
  refine wo_call hS8 (o := ops17[8]'(by rw [ops17_size]; decide)) 60 24 #[.slice (some ⟨gc, 0, none⟩) m cc] (fun v w1 => v = .int .i64 (rdE ls n) ∧ Below wc.heap.size wc w1) rfl rfl rfl (by omega) (enter17 ⟨t8, []⟩ _ _ (hS8.ev (by simp [setS, L2])))
    ((refusal_c gc 0 m cc ((List.range m).map fun i => (tE ls i : Int)) wc (by simp) (by omega) (fun j hj => ?_) (fun _ => by rw [hc]; exact glt)).mono ?_) ?_
  · rw [cell_heap hc, gce j (.int .i64 (tE ls j : Nat)) (by simp [tEs, hj])]
    simp [hj]
  · rintro e w1 ⟨rfl, hbl⟩
    refine ⟨_, rfl, ?_, hbl⟩
    unfold rdE
    rw [show n / 2 = m by omega]
  rintro v1 w1 t9 ⟨rfl, hbl⟩ hS9
  refine wo_mv hS9 (o := ops17[9]'(by rw [ops17_size]; decide)) 58 2 (.slice (some ⟨gf, 0, none⟩) (n - m) cf) rfl (.inr rfl) rfl rfl (by omega) (by simp [setS, L2]) fun t10 hS10 => ?_
  refine wo_mv hS10 (o := ops17[10]'(by rw [ops17_size]; decide)) 60 3 (.int .i64 (rdE ls n)) rfl (.inr rfl) rfl rfl (by omega) (by simp [setS, L2]) fun t11 hS11 => ?_
  refine wo_nil ⟨rfl, rfl, fun U => ?_⟩
  refine MI.toret (.inr ⟨k, rfl⟩) ?_
  have k1 : Keeps w' w1 := (show Keeps w' wc from ⟨by rw [hc]; exact Nat.le_refl _, fun a _ => cell_heap hc a, fun x _ => by rw [hc]⟩).trans (Keeps.below hbl)
  have k2 : Keeps w' (onT w1 U) := k1.trans (Keeps.onT w1 U)
  have ln : (rdL ls n).length = n - m := by rw [rdL_length]; omega
  refine K t11 (onT w1 U) gf cf hS11.size (by rw [ln]; exact hS11.get (by simp [setS, L2])) (hS11.get (by simp [setS, L2])) ⟨rfl, Nat.lt_of_lt_of_le gflt k2.size, fun j hj => ?_⟩ (by rw [ln]; exact hcf) (kB.trans (k2.toB (Nat.le_trans h.size g'.size))) ((g'.ex h.size fun x hx => (h.rowF.lt x hx).1).trans fun x hx => by
    have hxw : x < w'.heap.size := Nat.lt_of_lt_of_le hx (Nat.le_trans h.size g'.size)
    show w1.heap[x]? = _
    rw [hbl.block x (by rw [hc]; exact hxw), hc])
  rw [ln] at hj
  by_cases hjm : j < m
  · obtain ⟨r, q1, q2⟩ := h.told j hjm
    have q3 := q2.toF g' (F' := some gf) (r4.imp (fun e => by exact e) fun e x hx => by
      have e' : (some gf : Option Nat) = some (retape wb T2).heap.size := e
      have : gf = wb.heap.size := by cases e'; rfl
      cases hx
      omega)
    refine ⟨r, ?_, ?_⟩
    · rw [k2.cell _ gflt]
      exact gfe j r (by rw [List.getElem?_append_left (by rw [h.len]; exact hjm)]; exact q1)
    · rw [rdL_told (by omega)]
      exact ⟨q3.seg.keep k2, q3.slv.mono k2.size⟩
  · obtain ⟨u, hu⟩ : ∃ u, ys[0]? = some u := ⟨_, List.getElem?_eq_getElem (by omega)⟩
    obtain ⟨_, e, q1, q2⟩ := hys 0 u hu
    have ej : j = m := by omega
    subst ej
    refine ⟨u, ?_, ?_⟩
    · rw [k2.cell _ gflt]
      exact gfe j u (by rw [List.getElem?_append_right (by rw [h.len]; exact Nat.le_refl _), h.len, Nat.sub_self]; exact hu)
    · have : (rdL ls n).getD j [] = ls.getD (2 * j) [] := by
        have := rdL_last (ls := ls) (n := n) (by omega)
        rw [show n / 2 = j by omega, show n - 1 = 2 * j by omega] at this
        exact this
      rw [this]
      have := q2.keep (kB.trans (k2.toB (Nat.le_trans h.size g'.size)))
      exact ⟨this.seg, this.slv.mono (Nat.le_trans h.size (Nat.le_trans g'.size k2.size))⟩
end Go.Proofs.Ytcobehkadhcjiaa

/-
  Entries, plain: the order of the newer; merges in whatever order; entries of notes.
-/
namespace Go.Proofs.Ytcobehkadhcjiaa
namespace Plain

theorem newer_irr (a : En) : newer a a = false := by unfold newer; simp
theorem newer_asymm {a b : En} (h : newer a b = true) : newer b a = false := by
  unfold newer at h ⊢
  by_cases h1 : a.time = b.time
  · rw [if_pos h1] at h
    rw [if_pos h1.symm]
    by_cases h2 : a.who = b.who
    · rw [if_pos h2] at h
      rw [if_pos h2.symm]
      by_cases h3 : a.gone = b.gone
      · rw [if_pos h3] at h
        rw [if_pos h3.symm]
        simp at h ⊢
        omega
      · rw [if_neg h3] at h
        rw [if_neg (fun e => h3 e.symm)]
        cases ha : a.gone <;> cases hb : b.gone <;> simp_all
    · rw [if_neg h2] at h
      rw [if_neg (fun e => h2 e.symm)]
      simp at h ⊢
      omega
  · rw [if_neg h1] at h
    rw [if_neg (fun e => h1 e.symm)]
    simp at h ⊢
    omega
theorem newer_total {a b : En} (hk : a.key = b.key) (h1 : newer a b = false) (h2 : newer b a = false) : a = b := by
  unfold newer at h1 h2
  by_cases e1 : a.time = b.time
  · rw [if_pos e1] at h1
    rw [if_pos e1.symm] at h2
    by_cases e2 : a.who = b.who
    · rw [if_pos e2] at h1
      rw [if_pos e2.symm] at h2
      by_cases e3 : a.gone = b.gone
      · rw [if_pos e3] at h1
        rw [if_pos e3.symm] at h2
        simp at h1 h2
        cases a; cases b
        simp at hk e1 e2 e3 h1 h2 ⊢
        exact ⟨hk, by omega, e1, e2, e3⟩
      · rw [if_neg e3] at h1
        rw [if_neg (fun e => e3 e.symm)] at h2
        rw [h1, h2] at e3
        exact absurd rfl e3
    · rw [if_neg e2] at h1
      rw [if_neg (fun e => e2 e.symm)] at h2
      simp at h1 h2
      omega
  · rw [if_neg e1] at h1
    rw [if_neg (fun e => e1 e.symm)] at h2
    simp at h1 h2
    omega
theorem newer_trans {a b c : En} (h1 : newer a b = true) (h2 : newer b c = true) : newer a c = true := by
  unfold newer at h1 h2 ⊢
  by_cases t1 : a.time = b.time
  · rw [if_pos t1] at h1
    by_cases t2 : b.time = c.time
    · rw [if_pos t2] at h2
      rw [if_pos (t1.trans t2)]
      by_cases w1 : a.who = b.who
      · rw [if_pos w1] at h1
        by_cases w2 : b.who = c.who
        · rw [if_pos w2] at h2
          rw [if_pos (w1.trans w2)]
          cases ha : a.gone <;> cases hb : b.gone <;> cases hc : c.gone <;> simp_all
          all_goals omega
        · rw [if_neg w2] at h2
          rw [if_neg (fun e => w2 (w1.symm.trans e))]
          simp at h2 ⊢
          omega
      · rw [if_neg w1] at h1
        by_cases w2 : b.who = c.who
        · rw [if_neg (fun e => w1 (e.trans w2.symm))]
          simp at h1 ⊢
          omega
        · rw [if_neg w2] at h2
          simp at h1 h2
          rw [if_neg (by omega)]
          simp
          omega
    · rw [if_neg t2] at h2
      rw [if_neg (fun e => t2 (t1.symm.trans e))]
      simp at h2 ⊢
      omega
  · rw [if_neg t1] at h1
    by_cases t2 : b.time = c.time
    · rw [if_neg (fun e => t1 (e.trans t2.symm))]
      simp at h1 ⊢
      omega
    · rw [if_neg t2] at h2
      simp at h1 h2
      rw [if_neg (by omega)]
      simp
      omega
/-- What is not newer than what is not newer is not newer. -/
theorem newer_not {a b c : En} (_hab : a.key = b.key) (hbc : b.key = c.key) (h1 : newer a b = false) (h2 : newer b c = false) : newer a c = false := by
  cases h : newer a c with
  | false => rfl
  | true =>
    cases h3 : newer c b with
    | true => rw [newer_trans h h3] at h1; cases h1
    | false =>
      have := newer_total hbc h2 h3
      subst this
      rw [h] at h1
      cases h1

theorem top_comm {a b : En} (h : a.key = b.key) : top a b = top b a := by
  unfold top
  cases h1 : newer b a with
  | true => rw [newer_asymm h1]; rfl
  | false =>
    cases h2 : newer a b with
    | true => rfl
    | false => exact (newer_total h h2 h1)
theorem top_same (a : En) : top a a = a := by unfold top; rw [newer_irr]; rfl
theorem top_assoc {a b c : En} (h1 : a.key = b.key) (h2 : b.key = c.key) : top (top a b) c = top a (top b c) := by
  unfold top
  cases hba : newer b a with
  | true =>
    cases hcb : newer c b with
    | true =>
      simp only [if_true]
      rw [newer_trans hcb hba, hcb]
      rfl
    | false => simp [hba, hcb]
  | false =>
    cases hcb : newer c b with
    | true => simp
    | false =>
      simp only [Bool.false_eq_true, if_false]
      rw [newer_not h2.symm h1.symm hcb hba, hba]
      rfl

theorem look_keys {k : Int} {l m : List En} {x y : En} (h1 : look k l = some x) (h2 : look k m = some y) : x.key = y.key := by
  rw [(look_key h1).1, (look_key h2).1]
theorem comb_comm (k : Int) (a b : List En) : comb (look k a) (look k b) = comb (look k b) (look k a) := by
  cases h1 : look k a with
  | none => rw [none_comb, comb_none]
  | some x =>
    cases h2 : look k b with
    | none => rfl
    | some y => exact congrArg some (top_comm (look_keys h1 h2))
theorem comb_same (x : Option En) : comb x x = x := by
  cases x with
  | none => rfl
  | some x => exact congrArg some (top_same x)
theorem comb_assoc (k : Int) (a b c : List En) : comb (comb (look k a) (look k b)) (look k c) = comb (look k a) (comb (look k b) (look k c)) := by
  cases h1 : look k a with
  | none => rw [none_comb, none_comb]
  | some x =>
    cases h2 : look k b with
    | none => rw [comb_none, none_comb]
    | some y =>
      cases h3 : look k c with
      | none => rw [comb_none, comb_none]
      | some z => exact congrArg some (top_assoc (look_keys h1 h2) (look_keys h2 h3))

theorem merge_comm {a b : List En} (ha : Srt a) (hb : Srt b) : mergeL a b = mergeL b a :=
  look_ext (merge_srt ha b) (merge_srt hb a) fun k => by rw [merge_look ha hb, merge_look hb ha, comb_comm]
theorem merge_assoc {a b c : List En} (ha : Srt a) (hb : Srt b) (hc : Srt c) : mergeL (mergeL a b) c = mergeL a (mergeL b c) :=
  look_ext (merge_srt (merge_srt ha b) c) (merge_srt ha _) fun k => by
    rw [merge_look (merge_srt ha b) hc, merge_look ha hb, merge_look ha (merge_srt hb c), merge_look hb hc, comb_assoc]
theorem merge_same {a : List En} (ha : Srt a) : mergeL a a = a :=
  look_ext (merge_srt ha a) ha fun k => by rw [merge_look ha ha, comb_same]
theorem merge_again {a b : List En} (ha : Srt a) (hb : Srt b) : mergeL (mergeL a b) b = mergeL a b := by
  rw [merge_assoc ha hb hb, merge_same hb]

/-! Entries of six keys. -/
structure Six (l : List En) : Prop where
  srt : Srt l
  may : ∀ e ∈ l, mayB e = true
  low : ∀ e ∈ l, e.key < 6
theorem srt_len {l : List En} (hs : Srt l) (lo hi : Int) (h : ∀ e ∈ l, lo ≤ e.key ∧ e.key < hi) : l.length ≤ (hi - lo).toNat := by
  induction l generalizing lo with
  | nil => simp
  | cons a l ih =>
    have ha := List.pairwise_cons.1 hs
    have h1 := h a List.mem_cons_self
    have := ih ha.2 (lo + 1) fun e he => by
      have := ha.1 e he
      have := h e (List.mem_cons_of_mem _ he)
      omega
    simp only [List.length_cons]
    omega
theorem may_key {e : En} (h : mayB e = true) : 0 ≤ e.key ∧ e.key ≤ 1048576 := by
  unfold mayB at h
  exact (of_decide_eq_true h).1
theorem Six.len {l : List En} (h : Six l) : l.length ≤ 6 := by
  have := srt_len h.srt 0 6 fun e he => ⟨(may_key (h.may e he)).1, h.low e he⟩
  simpa using this
theorem Six.mayL {l : List En} (h : Six l) : mayL l = true := (may_iff l).2 ⟨Nat.le_trans h.len (by decide), h.may, h.srt⟩
theorem six_nil : Six [] := ⟨List.Pairwise.nil, by simp, by simp⟩
theorem six_one {e : En} (h : mayB e = true) (h6 : e.key < 6) : Six [e] := ⟨List.pairwise_singleton _ _, by simpa using h, by simpa using h6⟩
theorem Six.merge {a b : List En} (ha : Six a) (hb : Six b) : Six (mergeL a b) :=
  ⟨merge_srt ha.srt b, fun e he => (merge_mem he).elim (ha.may e) (hb.may e), fun e he => (merge_mem he).elim (ha.low e) (hb.low e)⟩
theorem Six.mergeE {a b : List En} (ha : Six a) (hb : Six b) : mergeE a b = 0 := by
  have := (ha.merge hb).len
  unfold Plain.mergeE
  rw [if_pos ⟨ha.mayL, hb.mayL⟩, if_pos (by omega)]
theorem Six.mergeR {a b : List En} (ha : Six a) (hb : Six b) : mergeR a b = mergeL a b := by
  unfold Plain.mergeR
  rw [if_pos (ha.mergeE hb)]

/-- The entry of a note. -/
def eof (n : En) : En := ⟨n.key % 6, if n.gone then 0 else n.value % 3, n.time % 4, n.who % 3, n.gone⟩
theorem eof_may (n : En) : mayB (eof n) = true := by
  unfold mayB eof
  simp only [decide_eq_true_eq]
  have h1 := Int.emod_nonneg n.key (show (6 : Int) ≠ 0 by omega)
  have h2 := Int.emod_lt_of_pos n.key (show (0 : Int) < 6 by omega)
  have h3 := Int.emod_nonneg n.time (show (4 : Int) ≠ 0 by omega)
  have h4 := Int.emod_lt_of_pos n.time (show (0 : Int) < 4 by omega)
  have h5 := Int.emod_nonneg n.who (show (3 : Int) ≠ 0 by omega)
  have h6 := Int.emod_lt_of_pos n.who (show (0 : Int) < 3 by omega)
  have h7 := Int.emod_nonneg n.value (show (3 : Int) ≠ 0 by omega)
  have h8 := Int.emod_lt_of_pos n.value (show (0 : Int) < 3 by omega)
  cases n.gone
  · simp; omega
  · simp; omega
theorem eof_low (n : En) : (eof n).key < 6 := Int.emod_lt_of_pos n.key (show (0 : Int) < 6 by omega)
theorem eof_six (n : En) : Six [eof n] := six_one (eof_may n) (eof_low n)

/-- The entries of notes: i of them merged. -/
def eofs (l : List En) (i : Nat) : List En := ((l.take i).map eof).foldl put []
def noteN (l : List En) : Nat := min l.length 30
theorem eofs_zero (l : List En) : eofs l 0 = [] := by simp [eofs]
theorem eofs_succ (l : List En) (i : Nat) (h : i < l.length) : eofs l (i + 1) = mergeL (eofs l i) [eof (en l i)] := by
  unfold eofs
  rw [List.take_succ_eq_append_getElem h, List.map_append, List.foldl_append, en_lt h]
  rfl
theorem eofs_six (l : List En) (i : Nat) (h : i ≤ l.length) : Six (eofs l i) := by
  induction i with
  | zero => rw [eofs_zero]; exact six_nil
  | succ i ih =>
    rw [eofs_succ l i (by omega)]
    exact (ih (by omega)).merge (eof_six _)

/-! What a fold holds. -/
theorem put_has {l : List En} (hs : Srt l) (e y : En) (h : y = e ∨ ∃ x ∈ l, x.key = y.key ∧ newer y x = false) : ∃ x ∈ put l e, x.key = y.key ∧ newer y x = false := by
  have hl := put_look hs e y.key
  rcases h with rfl | ⟨x, hx, hk, hn⟩
  · rw [if_pos rfl] at hl
    cases h1 : look y.key l with
    | none =>
      rw [h1, none_comb] at hl
      exact ⟨y, (look_key hl).2, rfl, newer_irr y⟩
    | some x =>
      rw [h1] at hl
      have hl' : look y.key (put l y) = some (top x y) := hl
      refine ⟨top x y, (look_key hl').2, (look_key hl').1, ?_⟩
      unfold top
      split
      · exact newer_irr y
      · rename_i c
        simpa using c
  · have h1 : look y.key l = some x := by rw [← hk]; exact look_mem hs hx
    rw [h1] at hl
    by_cases c : e.key = y.key
    · rw [if_pos c] at hl
      have hl' : look y.key (put l e) = some (top x e) := hl
      refine ⟨top x e, (look_key hl').2, (look_key hl').1, ?_⟩
      unfold top
      split
      · rename_i d
        exact newer_not hk.symm (hk.trans c.symm) hn (newer_asymm d)
      · exact hn
    · rw [if_neg c, comb_none] at hl
      exact ⟨x, (look_key hl).2, hk, hn⟩
theorem fold_srt {a : List En} (hs : Srt a) (m : List En) : Srt (m.foldl put a) := merge_srt hs m
theorem fold_has {a : List En} (hs : Srt a) (m : List En) (y : En) (h : y ∈ m ∨ ∃ x ∈ a, x.key = y.key ∧ newer y x = false) : ∃ x ∈ m.foldl put a, x.key = y.key ∧ newer y x = false := by
  induction m generalizing a with
  | nil =>
    rcases h with h | h
    · simp at h
    · exact h
  | cons e m ih =>
    refine ih (put_srt hs e) ?_
    rcases h with h | h
    · rcases List.mem_cons.1 h with h | h
      · exact .inr (put_has hs e y (.inl h))
      · exact .inl h
    · exact .inr (put_has hs e y (.inr h))
theorem fold_mem {m : List En} {x : En} (h : x ∈ m.foldl put []) : x ∈ m := by
  rcases merge_mem (a := []) (b := m) h with h | h
  · simp at h
  · exact h
/-- The same written, in whatever order and however often: the same comes out. -/
theorem fold_ext {m n : List En} (h : ∀ x, x ∈ m ↔ x ∈ n) : m.foldl put [] = n.foldl put [] := by
  have hs : ∀ m : List En, Srt (m.foldl put []) := fun m => fold_srt List.Pairwise.nil m
  have key : ∀ (m n : List En), (∀ x, x ∈ m ↔ x ∈ n) → ∀ k x, look k (m.foldl put []) = some x → look k (n.foldl put []) = some x := by
    intro m n h k x hx
    obtain ⟨hk, hm⟩ := look_key hx
    obtain ⟨y, hy, hyk, hyn⟩ := fold_has (a := []) List.Pairwise.nil n x (.inl ((h x).1 (fold_mem hm)))
    obtain ⟨z, hz, hzk, hzn⟩ := fold_has (a := []) List.Pairwise.nil m y (.inl ((h y).2 (fold_mem hy)))
    have e1 := look_mem (hs m) hz
    rw [hzk, hyk, hk, hx] at e1
    injection e1 with e1
    subst e1
    have e2 := newer_total hyk hzn hyn
    subst e2
    rw [← hk]
    exact look_mem (hs n) hy
  refine look_ext (hs m) (hs n) fun k => ?_
  cases h1 : look k (m.foldl put []) with
  | some x => exact (key m n h k x h1).symm
  | none =>
    cases h2 : look k (n.foldl put []) with
    | none => rfl
    | some y =>
      rw [key n m (fun x => (h x).symm) k y h2] at h1
      cases h1

/-! The notes turned round. -/
/-- i notes put ahead of each other, from the turn on. -/
def turned (l : List En) (n t : Nat) : Nat → List En
  | 0 => []
  | i + 1 => en l ((i + t) % n) :: turned l n t i
theorem turned_len (l : List En) (n t i : Nat) : (turned l n t i).length = i := by
  induction i with
  | zero => rfl
  | succ i ih => simp [turned, ih]
theorem turned_mem {l : List En} {n t i : Nat} {x : En} : x ∈ turned l n t i ↔ ∃ j, j < i ∧ x = en l ((j + t) % n) := by
  induction i with
  | zero => simp [turned]
  | succ i ih =>
    simp only [turned, List.mem_cons, ih]
    constructor
    · rintro (h | ⟨j, hj, h⟩)
      · exact ⟨i, by omega, h⟩
      · exact ⟨j, by omega, h⟩
    · rintro ⟨j, hj, h⟩
      by_cases e : j = i
      · subst e; exact .inl h
      · exact .inr ⟨j, by omega, h⟩
theorem turn_onto (n t k : Nat) (hk : k < n) : ∃ j, j < n ∧ (j + t) % n = k := by
  refine ⟨(k + (n - t % n)) % n, Nat.mod_lt _ (by omega), ?_⟩
  have h1 : t % n < n := Nat.mod_lt _ (by omega)
  rw [Nat.mod_add_mod, ← Nat.add_mod_mod (k + (n - t % n)) t n]
  rw [show k + (n - t % n) + t % n = k + n by omega, Nat.add_mod_right, Nat.mod_eq_of_lt hk]
theorem turned_same (l : List En) (n t : Nat) (hn : n ≤ l.length) : ∀ x, x ∈ turned l n t n ↔ x ∈ l.take n := by
  intro x
  rw [turned_mem]
  constructor
  · rintro ⟨j, hj, rfl⟩
    have h1 : (j + t) % n < n := Nat.mod_lt _ (by omega)
    rw [en_lt (by omega)]
    exact List.mem_take_iff_getElem.2 ⟨_, by omega, rfl⟩
  · intro h
    obtain ⟨i, hi, rfl⟩ := List.mem_take_iff_getElem.1 h
    obtain ⟨j, hj, e⟩ := turn_onto n t i (by omega)
    exact ⟨j, hj, by rw [e, en_lt (by omega)]⟩
theorem turned_eofs (l : List En) (n t : Nat) (hn : n ≤ l.length) : eofs (turned l n t n) n = eofs l n := by
  unfold eofs
  have e : (turned l n t n).take n = turned l n t n := List.take_of_length_le (by rw [turned_len]; exact Nat.le_refl _)
  rw [e]
  refine fold_ext fun x => ?_
  simp only [List.mem_map]
  constructor
  · rintro ⟨y, hy, rfl⟩; exact ⟨y, (turned_same l n t hn y).1 hy, rfl⟩
  · rintro ⟨y, hy, rfl⟩; exact ⟨y, (turned_same l n t hn y).2 hy, rfl⟩
end Plain
end Go.Proofs.Ytcobehkadhcjiaa
