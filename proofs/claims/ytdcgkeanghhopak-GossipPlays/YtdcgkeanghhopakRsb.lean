/-
  The document's GossipPlayed.
-/
import Derived.Test.YtdcgkeanghhopakRsa
import Derived.Test.YtdcgkeanghhopakRs9
import Derived.Test.YtdcgkeanghhopakG1
namespace Go.Proofs.Ytdcgkeanghhopak
open Go.RowKit Go.Shelf Go.Sort

theorem ShI.grown {B S HO IO : Nat} {hb ib : Nat → Nat} {w0 w U : World} {lp : Option Addr} {lc n m hc ic : Nat} {f : Plain.Shv} (h : ShI B S HO IO hb ib w0 w lp lc n m hc ic f) {C e k : Nat} {v : Value} {xs : List Value} (o : w.ownsRow C e 1 v k xs)
    (n1 : 71 ≠ e) (n2 : 72 ≠ e) (n3 : 73 ≠ e) (n4 : 77 ≠ e) (n5 : 76 ≠ e) (hBC : B ≤ C) (hBw : B ≤ w.heap.size) (g : w.grownBy U v.ownBlock) : ShI B S HO IO hb ib w0 U lp lc n m hc ic f :=
  ⟨grow_bx h.bx o n1 g, by obtain ⟨M, q, r, x⟩ := h.ho; exact ⟨M, q, grow_bx r o n2 g, x⟩, by obtain ⟨M, q, r, x⟩ := h.io; exact ⟨M, q, grow_bx r o n3 g, x⟩,
    fun i hi => by obtain ⟨F, r, x⟩ := h.hr i hi; exact ⟨F, grow_bx r o n4 g, x⟩, fun i hi => by obtain ⟨F, r, x⟩ := h.ir i hi; exact ⟨F, grow_bx r o n5 g, x⟩, h.hd, h.di, h.hg, h.ig, h.be.grown g hBw (fun j hj => Nat.le_trans hBC (o.lt j hj).1)⟩
theorem owns_other {w U : World} {C1 C2 e1 e2 s1 s2 k1 k2 : Nat} {v1 v2 : Value} {x1 x2 : List Value} (o1 : w.ownsRow C1 e1 s1 v1 k1 x1) (o2 : w.ownsRow C2 e2 s2 v2 k2 x2) (hne : e1 ≠ e2) (g : w.grownBy U v2.ownBlock) : U.ownsRow C1 e1 s1 v1 k1 x1 :=
  owns_block o1 fun q e => g.block q (o1.lt q e).2 (fun e' => owns_apart o1 o2 hne e e'.symm)
theorem owns_un {B S HO IO : Nat} {hb ib : Nat → Nat} {w0 w w' : World} {lp : Option Addr} {lc n m hc ic : Nat} {f : Plain.Shv} {C N e s : Nat} {v : Value} {xs : List Value} (I : ShI B S HO IO hb ib w0 w lp lc n m hc ic f) (o : w.ownsRow C e s v N xs) (n4 : 77 ≠ e) (n5 : 76 ≠ e) (u : Un (isS hb ib n) w w') : w'.ownsRow C e s v N xs :=
  owns_block o fun b e' => u.block b (o.lt b e').2 fun ⟨i, hi, h⟩ => by
    rcases h with h | h
    · obtain ⟨F, r, _⟩ := I.hr i hi
      exact row_owns_ne r o n4 (by rw [← h]; exact e')
    · obtain ⟨F, r, _⟩ := I.ir i hi
      exact row_owns_ne r o n5 (by rw [← h]; exact e')
theorem owns_base {w : World} {C C' e s n : Nat} {v : Value} {xs : List Value} (o : w.ownsRow C e s v n xs) (h : C' ≤ C) : w.ownsRow C' e s v n xs := by
  refine ⟨o.1, ?_⟩
  rcases o.2 with h0 | ⟨b, cap, cur, e, hB, h3⟩
  · exact .inl h0
  · exact .inr ⟨b, cap, cur, e, by omega, h3⟩
/-- A row of one-cell values, opened. -/
theorem own_open {w : World} {C e n : Nat} {v : Value} {xs : List Value} (o : w.ownsRow C e 1 v n xs) : ∃ p c, v = .slice p n c ∧ (0 < n → ∃ g, p = some ⟨g, 0, none⟩ ∧ g < w.heap.size ∧ ∀ j, j < n → w.cell? ⟨g, j, none⟩ = xs[j]?) := by
  rcases o.2 with ⟨rfl, h0⟩ | ⟨g, cap, cur, rfl, _, hg, hc, _, hs, ht⟩
  · subst h0
    exact ⟨none, 0, rfl, fun h => absurd h (by decide)⟩
  · refine ⟨_, cap, rfl, fun _ => ⟨g, rfl, (Array.getElem?_eq_some_iff.1 hg).1, fun j hj => ?_⟩⟩
    rw [← ht, List.getElem?_take, if_pos (by omega), Array.getElem?_toList]
    simp only [World.cell?, hg]
    rw [Array.getElem?_eq_getElem (show j < cur.size by omega)]
    rfl
/-- Codes, as values. -/
def cvals (D : List Nat) : List Value := D.map fun k : Nat => .int .i64 (k : Int)
theorem cvals_snoc (D : List Nat) (x : Nat) : cvals (D ++ [x]) = cvals D ++ [.int .i64 (x : Int)] := by simp [cvals]
theorem cvals_at {D : List Nat} {j : Nat} (h : j < D.length) : (cvals D)[j]? = some (.int .i64 ((D.getD j 0 : Nat) : Int)) := by
  simp [cvals, h]
theorem code_step {w : World} {B k : Nat} {v : Value} {D : List Nat} (o : w.ownsRow B 26 1 v k (cvals D)) (hk : k ≤ 1000) (hB : B ≤ w.heap.size) (x : Nat) :
    ∃ p c U, (Builtin.append_ #[24, 24] 24 #[v, .slice (some ⟨w.heap.size, 0, none⟩) 1 1]).run Try.prog (w.alloc (.cells #[.int .i64 (x : Int)] 26)) = .ok (.slice p (k + 1) c) U ∧
      U.ownsRow B 26 1 (.slice p (k + 1) c) (k + 1) (cvals (D ++ [x])) ∧ (w.alloc (.cells #[.int .i64 (x : Int)] 26)).grownBy U v.ownBlock := by
  have bA : Below w.heap.size w (w.alloc (.cells #[.int .i64 (x : Int)] 26)) := (Below.refl _ _).alloc (Nat.le_refl _) _
  obtain ⟨p, c, U, h1, h2, h3, _⟩ := app_val Try.underlying24 Try.infoErr rfl rfl (by decide) (owns_grow o bA) hk (Nat.le_trans hB bA.size) (g := w.heap.size) (x := .int .i64 (x : Int)) (by rw [World.cell?_alloc_at _ _ _ _ rfl]; rfl)
  rw [← cvals_snoc] at h2
  exact ⟨p, c, U, h1, h2, h3⟩
/-- The shelves, and what was told, in memory. -/
structure RpI (B S HO IO : Nat) (hb ib : Nat → Nat) (w0 w : World) (lp : Option Addr) (lc n m hc ic : Nat) (f : Plain.Shv) (v : Value) (k : Nat) (D : List Nat) : Prop where
  sh : ShI B S HO IO hb ib w0 w lp lc n m hc ic f
  co : w.ownsRow B 26 1 v k (cvals D)
theorem RpI.grow {B S HO IO : Nat} {hb ib : Nat → Nat} {w0 w w' : World} {lp : Option Addr} {lc n m hc ic : Nat} {f : Plain.Shv} {v : Value} {k : Nat} {D : List Nat} (h : RpI B S HO IO hb ib w0 w lp lc n m hc ic f v k D) (hB : B ≤ w.heap.size) (b : Below w.heap.size w w') : RpI B S HO IO hb ib w0 w' lp lc n m hc ic f v k D :=
  ⟨h.sh.grow hB b, owns_grow h.co b⟩
theorem RpI.turn {B S HO IO : Nat} {hb ib : Nat → Nat} {w0 w w' : World} {lp : Option Addr} {lc n m hc ic : Nat} {f f' : Plain.Shv} {v : Value} {k : Nat} {D : List Nat} (h : RpI B S HO IO hb ib w0 w lp lc n m hc ic f v k D) (I : ShI B S HO IO hb ib w0 w' lp lc n m hc ic f') (u : Un (isS hb ib n) w w') : RpI B S HO IO hb ib w0 w' lp lc n m hc ic f' v k D :=
  ⟨I, owns_un h.sh h.co (by decide) (by decide) u⟩
theorem RpI.told {B S HO IO : Nat} {hb ib : Nat → Nat} {w0 w : World} {lp : Option Addr} {lc n m hc ic : Nat} {f : Plain.Shv} {v : Value} {k : Nat} {D : List Nat} (h : RpI B S HO IO hb ib w0 w lp lc n m hc ic f v k D) (hB : B ≤ w.heap.size) (hk : k ≤ 1000) (x : Nat) :
    ∃ p c U, (Builtin.append_ #[24, 24] 24 #[v, .slice (some ⟨w.heap.size, 0, none⟩) 1 1]).run Try.prog (w.alloc (.cells #[.int .i64 (x : Int)] 26)) = .ok (.slice p (k + 1) c) U ∧ B ≤ U.heap.size ∧
      RpI B S HO IO hb ib w0 U lp lc n m hc ic f (.slice p (k + 1) c) (k + 1) (D ++ [x]) := by
  obtain ⟨p, c, U, h1, h2, h3⟩ := code_step h.co hk hB x
  have bA : Below w.heap.size w (w.alloc (.cells #[.int .i64 (x : Int)] 26)) := (Below.refl _ _).alloc (Nat.le_refl _) _
  have hA := h.grow hB bA
  exact ⟨p, c, U, h1, Nat.le_trans (Nat.le_trans hB bA.size) h3.size, hA.sh.grown hA.co (by decide) (by decide) (by decide) (by decide) (by decide) (Nat.le_refl _) (Nat.le_trans hB bA.size) h3, h2⟩

/-- The lists of one branch, label by label: a row that grows. -/
structure MiI (W w : World) (v : Value) (k : Nat) (q : Nat → Value) (s : Nat → List Plain.En) : Prop where
  ow : w.ownsRow W.heap.size 39 1 v k ((List.range k).map q)
  en : ∀ i, i < k → w.ownsRow 0 46 5 (q i) (s i).length (encN.vals (s i))
  be : Below W.heap.size W w
theorem range_snoc (q : Nat → Value) (k : Nat) (x : Value) : (List.range k).map q ++ [x] = (List.range (k + 1)).map (fun i => if i = k then x else q i) := by
  rw [List.range_succ, List.map_append]
  congr 1
  · refine List.map_congr_left fun i hi => ?_
    have := List.mem_range.1 hi
    rw [if_neg (by omega)]
  · simp
theorem MiI.snoc {W w w1 : World} {v : Value} {k : Nat} {q : Nat → Value} {s : Nat → List Plain.En} (h : MiI W w v k q s) (hk : k ≤ 1000) {x : Value} (e : EI w w1 x (s k)) (hx : x.oneCell' = true) :
    ∃ p c U, (Builtin.append_ #[40, 40] 40 #[v, .slice (some ⟨w1.heap.size, 0, none⟩) 1 1]).run Try.prog (w1.alloc (.cells #[x] 39)) = .ok (.slice p (k + 1) c) U ∧
      MiI W U (.slice p (k + 1) c) (k + 1) (fun i => if i = k then x else q i) s := by
  have bA : Below w1.heap.size w1 (w1.alloc (.cells #[x] 39)) := (Below.refl _ _).alloc (Nat.le_refl _) _
  have b1 : Below w.heap.size w (w1.alloc (.cells #[x] 39)) := e.be.trans (bA.mono e.be.size)
  have hsz : W.heap.size ≤ (w1.alloc (.cells #[x] 39)).heap.size := Nat.le_trans h.be.size b1.size
  obtain ⟨p, c, U, h1, h2, h3, _⟩ := app_val Try.underlying40 Try.infoSsE rfl hx (by decide) (owns_grow h.ow b1) hk hsz (g := w1.heap.size) (x := x) (by rw [World.cell?_alloc_at _ _ _ _ rfl]; rfl)
  rw [range_snoc] at h2
  refine ⟨p, c, U, h1, h2, fun i hi => ?_, (h.be.trans (b1.mono h.be.size)).grown h3 hsz (fun j hj => (h.ow.lt j hj).1)⟩
  by_cases ei : i = k
  · subst ei
    rw [if_pos rfl]
    exact owns_other (owns_base (owns_grow e.ow bA) (Nat.zero_le _)) (owns_grow h.ow b1) (by decide) h3
  · rw [if_neg ei]
    exact owns_other (owns_grow (h.en i (by omega)) b1) (owns_grow h.ow b1) (by decide) h3
/-- The lists of the branches: a row of such rows that grows. -/
structure AlI (B m : Nat) (w : World) (v : Value) (k : Nat) (r : Nat → Value) (q : Nat → Nat → Value) (s : Plain.Stt) : Prop where
  al : w.ownsRow B 40 1 v k ((List.range k).map r)
  mi : ∀ a, a < k → w.ownsRow 0 39 1 (r a) m ((List.range m).map (q a))
  en : ∀ a, a < k → ∀ j, j < m → w.ownsRow 0 46 5 (q a j) (s a j).length (encN.vals (s a j))
theorem AlI.grow {B m : Nat} {w w' : World} {v : Value} {k : Nat} {r : Nat → Value} {q : Nat → Nat → Value} {s : Plain.Stt} (h : AlI B m w v k r q s) (b : Below w.heap.size w w') : AlI B m w' v k r q s :=
  ⟨owns_grow h.al b, fun a ha => owns_grow (h.mi a ha) b, fun a ha j hj => owns_grow (h.en a ha j hj) b⟩
theorem AlI.snoc {B m : Nat} {W w : World} {v x : Value} {k : Nat} {r : Nat → Value} {q : Nat → Nat → Value} {s : Plain.Stt} (h : AlI B m W v k r q s) (hk : k ≤ 1000) (hB : B ≤ W.heap.size) {q' : Nat → Value} (mi : MiI W w x m q' (s k)) (hx : x.oneCell' = true) :
    ∃ p c U, (Builtin.append_ #[25, 25] 25 #[v, .slice (some ⟨w.heap.size, 0, none⟩) 1 1]).run Try.prog (w.alloc (.cells #[x] 40)) = .ok (.slice p (k + 1) c) U ∧
      (w.alloc (.cells #[x] 40)).ownsRow B 40 1 v k ((List.range k).map r) ∧ (w.alloc (.cells #[x] 40)).grownBy U v.ownBlock ∧ AlI B m U (.slice p (k + 1) c) (k + 1) (fun i => if i = k then x else r i) (fun i => if i = k then q' else q i) s := by
  have bA : Below w.heap.size w (w.alloc (.cells #[x] 40)) := (Below.refl _ _).alloc (Nat.le_refl _) _
  have hW := h.grow (mi.be.trans (bA.mono mi.be.size))
  obtain ⟨p, c, U, h1, h2, h3, _⟩ := app_val Try.underlying25 Try.infoSE rfl hx (by decide) hW.al hk (Nat.le_trans hB (Nat.le_trans mi.be.size bA.size)) (g := w.heap.size) (x := x) (by rw [World.cell?_alloc_at _ _ _ _ rfl]; rfl)
  rw [range_snoc] at h2
  refine ⟨p, c, U, h1, hW.al, h3, h2, fun a ha => ?_, fun a ha j hj => ?_⟩
  · by_cases e : a = k
    · rw [if_pos e, if_pos e]
      exact owns_other (owns_base (owns_grow mi.ow bA) (Nat.zero_le _)) hW.al (by decide) h3
    · rw [if_neg e, if_neg e]
      exact owns_other (hW.mi a (by omega)) hW.al (by decide) h3
  · by_cases e : a = k
    · rw [if_pos e, e]
      exact owns_other (owns_grow (mi.en j hj) bA) hW.al (by decide) h3
    · rw [if_neg e]
      exact owns_other (hW.en a (by omega) j hj) hW.al (by decide) h3
theorem AlI.stores {B m : Nat} {w : World} {p : Option Addr} {c n : Nat} {r : Nat → Value} {q : Nat → Nat → Value} {s : Plain.Stt} (h : AlI B m w (.slice p n c) n r q s) : Stores w p n m s := fun h0 => by
  obtain ⟨p', c', e, ho⟩ := own_open h.al
  injection e with e _ _
  subst e
  obtain ⟨g, rfl, hg, hc⟩ := ho h0
  refine ⟨g, 0, rfl, hg, fun i hi => ?_⟩
  obtain ⟨p2, c2, e2, ho2⟩ := own_open (h.mi i hi)
  refine ⟨p2, c2, by rw [Nat.zero_add, hc i hi, ← e2]; simp [hi], fun m0 => ?_⟩
  obtain ⟨g2, rfl, hg2, hc2⟩ := ho2 m0
  refine ⟨g2, 0, rfl, hg2, fun j hj => ⟨q i j, by rw [Nat.zero_add, hc2 j hj]; simp [hj], ?_⟩⟩
  exact OwnN.seg (B := 0) (T := 46) (h.en i hi j hj)
theorem codes_nums {B : Nat} {w : World} {p : Option Addr} {c N : Nat} {D : List Nat} (o : w.ownsRow B 26 1 (.slice p N c) N (cvals D)) (hD : D.length = N) : Nums w p (Plain.cz D) := fun h0 => by
  rw [Plain.cz_len] at h0
  obtain ⟨p', c', e, ho⟩ := own_open o
  injection e with e _ _
  subst e
  obtain ⟨g, rfl, hg, hc⟩ := ho (by omega)
  refine ⟨g, 0, rfl, hg, fun j hj => ?_⟩
  rw [Plain.cz_len] at hj
  rw [Nat.zero_add, hc j (by omega), cvals_at hj, Plain.cz_at D hj]
end Go.Proofs.Ytdcgkeanghhopak
