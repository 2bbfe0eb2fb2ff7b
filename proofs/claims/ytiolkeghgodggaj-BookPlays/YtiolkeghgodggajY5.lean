/-
  book: what a round does, branch by branch; a call's answer.
-/
import Derived.Test.YtiolkeghgodggajY4
namespace Go.Proofs.Ytiolkeghgodggaj.Bo
open Go.RowKit Go.Shelf Go.Sort

namespace Plain
theorem mapN_congr {n : Nat} {f g : Nat → Int} (h : ∀ i, i < n → f i = g i) : mapN n f = mapN n g := List.map_congr_left fun i hi => h i (List.mem_range.1 hi)
theorem mapN_set {n : Nat} {f : Nat → Int} (k : Nat) (x : Int) (hk : k < n) : (mapN n f).set k x = mapN n fun i => if i = k then x else f i := by
  rw [list_mapN ((mapN n f).set k x), List.length_set, mapN_len]
  refine mapN_congr fun i hi => ?_
  rw [getD_set _ _ _ _ (by rw [mapN_len]; exact hk)]
  by_cases e : i = k
  · rw [if_pos e, if_pos e]
  · rw [if_neg e, if_neg e, mapN_at hi]
/-- The first k branches were given theirs. -/
def givS (b : Bk) (k : Nat) : Bk := { b with given := mapN b.n fun i => if i < k then b.given.getD i 0 + amt b i else b.given.getD i 0, since := mapN b.n fun i => if i < k then b.since.getD i 0 + amt b i else b.since.getD i 0, reserve := b.reserve - sumL (mapN k (amt b)) }
theorem givS_zero {b : Bk} (h : Ok b) : givS b 0 = b := by
  unfold givS
  have e1 : (mapN b.n fun i => if i < 0 then b.given.getD i 0 + amt b i else b.given.getD i 0) = b.given := by
    rw [mapN_congr (g := fun i => b.given.getD i 0) (fun i _ => if_neg (by omega)), ← h.lg, ← list_mapN]
  have e2 : (mapN b.n fun i => if i < 0 then b.since.getD i 0 + amt b i else b.since.getD i 0) = b.since := by
    rw [mapN_congr (g := fun i => b.since.getD i 0) (fun i _ => if_neg (by omega)), ← h.ls, ← list_mapN]
  rw [e1, e2]
  have e3 : b.reserve - sumL (mapN 0 (amt b)) = b.reserve := by
    have : sumL (mapN 0 (amt b)) = 0 := rfl
    omega
  rw [e3]
theorem givS_all (b : Bk) : { givS b b.n with rounds := (b.rounds + 1) % b.ticks } = giveB b := by
  unfold givS giveB
  rw [mapN_congr (g := fun i => b.given.getD i 0 + amt b i) (fun i hi => if_pos hi), mapN_congr (g := fun i => b.since.getD i 0 + amt b i) (fun i hi => if_pos hi)]
theorem givS_given {b : Bk} {k : Nat} (hk : k < b.n) : (givS b k).given.getD k 0 = b.given.getD k 0 ∧ (givS b (k + 1)).given = (givS b k).given.set k (b.given.getD k 0 + amt b k) := by
  refine ⟨?_, ?_⟩
  · show (mapN b.n _).getD k 0 = _
    rw [mapN_at hk, if_neg (by omega)]
  · show mapN b.n _ = (mapN b.n _).set k _
    rw [mapN_set k _ hk]
    refine mapN_congr fun i hi => ?_
    by_cases e : i = k
    · subst e; rw [if_pos (by omega), if_pos rfl]
    · rw [if_neg e]
      by_cases h2 : i < k
      · rw [if_pos h2, if_pos (by omega)]
      · rw [if_neg h2, if_neg (by omega)]
theorem givS_since {b : Bk} {k : Nat} (hk : k < b.n) : (givS b k).since.getD k 0 = b.since.getD k 0 ∧ (givS b (k + 1)).since = (givS b k).since.set k (b.since.getD k 0 + amt b k) := by
  refine ⟨?_, ?_⟩
  · show (mapN b.n _).getD k 0 = _
    rw [mapN_at hk, if_neg (by omega)]
  · show mapN b.n _ = (mapN b.n _).set k _
    rw [mapN_set k _ hk]
    refine mapN_congr fun i hi => ?_
    by_cases e : i = k
    · subst e; rw [if_pos (by omega), if_pos rfl]
    · rw [if_neg e]
      by_cases h2 : i < k
      · rw [if_pos h2, if_pos (by omega)]
      · rw [if_neg h2, if_neg (by omega)]
theorem givS_left {b : Bk} {k : Nat} (hk : k < b.n) : (leftB (givS b k)).getD k 0 = b.quotas.getD k 0 - b.since.getD k 0 ∧ leftB (givS b (k + 1)) = (leftB (givS b k)).set k (b.quotas.getD k 0 - b.since.getD k 0 - amt b k) := by
  have hs := givS_since hk
  refine ⟨?_, ?_⟩
  · show (mapN b.n _).getD k 0 = _
    rw [mapN_at hk, hs.1]; rfl
  · show mapN b.n _ = (mapN b.n _).set k _
    rw [mapN_set k _ hk]
    refine mapN_congr fun i hi => ?_
    rw [hs.2, getD_set _ _ _ _ (by show k < (mapN b.n _).length; rw [mapN_len]; exact hk)]
    by_cases e : i = k
    · subst e
      rw [if_pos rfl, if_pos rfl]
      show b.quotas.getD i 0 - _ = _
      omega
    · rw [if_neg e, if_neg e]; rfl
theorem givS_reserve (b : Bk) (k : Nat) : (givS b (k + 1)).reserve = (givS b k).reserve - amt b k := by
  show b.reserve - sumL (mapN (k + 1) (amt b)) = b.reserve - sumL (mapN k (amt b)) - amt b k
  rw [sumN_succ]; omega
theorem leftB_len (b : Bk) : (leftB b).length = b.n := mapN_len _ _
theorem givS_len (b : Bk) (k : Nat) : (givS b k).given.length = b.n := mapN_len _ _
theorem leftB_beg {b : Bk} (h0 : b.rounds = 0) : leftB (begB b) = splitL b.reserve (List.replicate b.n b.cap) := by
  unfold begB
  rw [if_pos h0]
  have hl : (splitL b.reserve (List.replicate b.n b.cap)).length = b.n := by rw [split_len, List.length_replicate]
  conv => rhs; rw [list_mapN (splitL b.reserve (List.replicate b.n b.cap)), hl]
  refine mapN_congr fun i hi => ?_
  show (splitL b.reserve (List.replicate b.n b.cap)).getD i 0 - (zeros b.n).getD i 0 = _
  rw [zeros_at]; omega
/-- What a branch is given, of a broker that is as it should be. -/
theorem amt_min {b : Bk} (h : Ok b) {i : Nat} (hi : i < b.n) : amt b i = min (b.wants.getD i 0 - b.given.getD i 0) (b.quotas.getD i 0 - b.since.getD i 0) := by
  have h1 := h.gi i hi
  have h2 := h.si i hi
  unfold amt
  omega
theorem reserve_bd {b : Bk} (h : Ok b) : 0 ≤ b.reserve ∧ b.reserve ≤ 1048576 := by
  have := h.ev
  have := h.em
  have := h.re
  have hs := sumN_nonneg (n := b.n) (f := fun i => b.given.getD i 0) (fun i hi => (h.gi i hi).1)
  rw [← sumL_list h.lg] at hs
  omega
theorem givS_bd {b : Bk} (h : Ok b) {k : Nat} (hk : k ≤ b.n) : -1048576 ≤ (givS b k).reserve ∧ (givS b k).reserve ≤ 1048576 := by
  have h1 := reserve_bd h
  have h2 := sumN_part (n := b.n) (k := k) (f := amt b) (fun i hi => (amt_bd h hi).1) hk
  have h3 := sumN_nonneg (n := k) (f := amt b) (fun i hi => (amt_bd h (show i < b.n by omega)).1)
  have h4 := (reserve_bd h.give).1
  have h5 : (giveB b).reserve = b.reserve - sumL (mapN b.n (amt b)) := rfl
  show -1048576 ≤ b.reserve - sumL (mapN k (amt b)) ∧ b.reserve - sumL (mapN k (amt b)) ≤ 1048576
  omega
end Plain

/-- What a call leaves. -/
def DoP (B R oo : Nat) (XX : Win) (A G N : Nat) (vl : Value) (b : Plain.Bk) (c : Plain.Ca) (w : World) (e : Ending) (w' : World) : Prop :=
  ∃ r vl' N', e = .returned (aggU r) ∧ r.d = Plain.caT b c ∧ BkI B R oo XX A G w' vl' (Plain.caB b c) N' ∧ N' ≤ N + 1 ∧ Un (Fb R A G vl) w w' ∧ Ns (fun k => Fb R A G vl' k ∨ k < w.heap.size) w' r.p r.c r.d.grants ∧ ∀ k, k < w.heap.size → Fb R A G vl' k → Fb R A G vl k
/-- In a round: the first k branches were given theirs. -/
structure GvI (R oo : Nat) (XX : Win) (A G L H : Nat) (w0 W : World) (b : Plain.Bk) (N k : Nat) : Prop where
  row : W.rowIs R XX.t XX.n (XX.f oo 8 (bkR A G (.slice (some ⟨L, 0, none⟩) b.n b.n) (Plain.givS b k) N))
  ra : RowI W A b.wants
  rg : RowI W G (Plain.givS b k).given
  rl : RowI W L (Plain.leftB (Plain.givS b k))
  box : W.rowIs H 44 3 (ruF ⟨⟨0, [], 0⟩, none, 0⟩)
  un : Un (Fb R A G (.slice (some ⟨L, 0, none⟩) b.n b.n)) w0 W
  le : oo + 8 ≤ XX.n
/-- All apart. -/
structure Geo (R A G L H : Nat) : Prop where
  RA : R ≠ A
  RG : R ≠ G
  AG : A ≠ G
  LR : L ≠ R
  LA : L ≠ A
  LG : L ≠ G
  HR : H ≠ R
  HA : H ≠ A
  HG : H ≠ G
  HL : H ≠ L
namespace GvI
variable {R oo A G L H N k : Nat} {XX : Win} {w0 W : World} {b : Plain.Bk}
theorem drewN (h : GvI R oo XX A G L H w0 W b N k) (q : Nat) : GvI R oo XX A G L H w0 (W.drewN q) b N k :=
  ⟨h.row.of_block rfl, h.ra.of_block rfl, h.rg.of_block rfl, h.rl.of_block rfl, h.box.of_block rfl, h.un.trans (Un.of_below (below_drewN (Below.refl _ _) q)), h.le⟩
theorem step (h : GvI R oo XX A G L H w0 W b N k) (g : Geo R A G L H) (hk : k < b.n) : GvI R oo XX A G L H w0 (((W.setCell ⟨G, k, none⟩ (.int .i64 (b.given.getD k 0 + Plain.amt b k))).setCell ⟨L, k, none⟩ (.int .i64 (b.quotas.getD k 0 - b.since.getD k 0 - Plain.amt b k))).setCell ⟨R, oo + 2, none⟩ (.int .i64 ((Plain.givS b k).reserve - Plain.amt b k))) b N (k + 1) := by
  obtain ⟨W1, hW1⟩ : ∃ W1, W1 = W.setCell ⟨G, k, none⟩ (.int .i64 (b.given.getD k 0 + Plain.amt b k)) := ⟨_, rfl⟩
  obtain ⟨W2, hW2⟩ : ∃ W2, W2 = W1.setCell ⟨L, k, none⟩ (.int .i64 (b.quotas.getD k 0 - b.since.getD k 0 - Plain.amt b k)) := ⟨_, rfl⟩
  rw [← hW1, ← hW2]
  have u1 : ∀ j, j ≠ G → W1.heap[j]? = W.heap[j]? := fun j hj => by rw [hW1]; exact Below.heap_setCell _ ⟨G, k, none⟩ _ j hj
  have u2 : ∀ j, j ≠ L → W2.heap[j]? = W1.heap[j]? := fun j hj => by rw [hW2]; exact Below.heap_setCell _ ⟨L, k, none⟩ _ j hj
  have rg1 : RowI W1 G (Plain.givS b (k + 1)).given := by
    rw [hW1, (Plain.givS_given hk).2]
    exact h.rg.set k (by rw [Plain.givS_len]; exact hk) _
  have rl2 : RowI W2 L (Plain.leftB (Plain.givS b (k + 1))) := by
    rw [hW2, (Plain.givS_left hk).2]
    exact (h.rl.of_block (u1 L g.LG)).set k (by rw [Plain.leftB_len]; exact hk) _
  have row2 := (h.row.of_block (u1 R g.RG)).of_block (u2 R (fun e => g.LR e.symm))
  refine ⟨?_, RowI.other ((h.ra.of_block (u1 A g.AG)).of_block (u2 A (fun e => g.LA e.symm))) (fun e => g.RA e.symm) _, RowI.other (rg1.of_block (u2 G (fun e => g.LG e.symm))) (fun e => g.RG e.symm) _, RowI.other rl2 g.LR _, ?_, ?_, h.le⟩
  · refine Win.set row2 2 (by omega) _ fun j hj => ?_
    have : j = 0 ∨ j = 1 ∨ j = 2 ∨ j = 3 ∨ j = 4 ∨ j = 5 ∨ j = 6 ∨ j = 7 := by omega
    rcases this with rfl | rfl | rfl | rfl | rfl | rfl | rfl | rfl
    · rfl
    · rfl
    · show Value.int .i64 (Plain.givS b (k + 1)).reserve = Value.int .i64 ((Plain.givS b k).reserve - Plain.amt b k)
      rw [Plain.givS_reserve]
    · rfl
    · rfl
    · rfl
    · rfl
    · rfl
  · exact ((h.box.of_block (u1 H g.HG)).of_block (u2 H g.HL)).of_block (Below.heap_setCell _ ⟨R, oo + 2, none⟩ _ H g.HR)
  · have un1 : Un (Fb R A G (.slice (some ⟨L, 0, none⟩) b.n b.n)) W W1 := by rw [hW1]; exact Un.set (.inr (.inr (.inl rfl))) _ _
    have un2 : Un (Fb R A G (.slice (some ⟨L, 0, none⟩) b.n b.n)) W1 W2 := by rw [hW2]; exact Un.set (.inr (.inr (.inr rfl))) _ _
    exact ((h.un.trans un1).trans un2).trans (Un.set (.inl rfl) _ _)
end GvI
end Go.Proofs.Ytiolkeghgodggaj.Bo
