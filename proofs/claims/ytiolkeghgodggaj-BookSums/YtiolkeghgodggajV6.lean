/-
  Nothing is given twice: the law's three rows.
-/
import Derived.Test.YtiolkeghgodggajV2
namespace Go.Proofs.Ytiolkeghgodggaj.Bo
open Go.RowKit Go.Shelf Go.Sort

namespace Plain
theorem caB_cap (b : Bk) (c : Ca) : (caB b c).cap = b.cap ∧ (caB b c).ticks = b.ticks := by
  unfold caB
  split
  · exact ⟨rfl, rfl⟩
  split
  · exact ⟨roundB_cap b, roundB_ticks b⟩
  split <;> exact ⟨rfl, rfl⟩
theorem bkF_cap (b : Bk) (l : List Ca) : (bkF b l).cap = b.cap ∧ (bkF b l).ticks = b.ticks := by
  induction l generalizing b with
  | nil => exact ⟨rfl, rfl⟩
  | cons c l ih =>
    have h := ih (caB b c)
    have h2 := caB_cap b c
    exact ⟨h.1.trans h2.1, h.2.trans h2.2⟩
theorem begB_since0 {b : Bk} (h : b.rounds = 0) : (begB b).since = zeros b.n := by unfold begB; rw [if_pos h]
theorem begB_same {b : Bk} (h : b.rounds ≠ 0) : begB b = b := by unfold begB; rw [if_neg h]
theorem since_len' (b : Bk) (k : Nat) : (givS b k).since.length = b.n := mapN_len _ _
theorem begB_reserve' (b : Bk) : (begB b).reserve = b.reserve := by unfold begB; split <;> rfl
/-- When all three were given theirs. -/
theorem givS_end {b : Bk} (hn : b.n = 3) : (givS (begB b) 3).given = (roundB b).given ∧ (givS (begB b) 3).since = (roundB b).since ∧ (givS (begB b) 3).reserve = (roundB b).reserve := by
  have h := givS_all (begB b)
  rw [begB_n, hn] at h
  have e : roundB b = giveB (begB b) := rfl
  rw [e, ← h]
  exact ⟨rfl, rfl, rfl⟩
theorem round_at {b : Bk} (hn : b.n = 3) {j : Nat} (hj : j < 3) : (roundB b).given.getD j 0 = (begB b).given.getD j 0 + amt (begB b) j := by
  show (mapN (begB b).n fun i => (begB b).given.getD i 0 + amt (begB b) i).getD j 0 = _
  rw [mapN_at (by rw [begB_n, hn]; exact hj)]
theorem givS_pos {b : Bk} (h : Ok b) {k : Nat} (hk : k ≤ b.n) : 0 ≤ (givS b k).reserve := by
  have h2 := sumN_part (n := b.n) (k := k) (f := amt b) (fun i hi => (amt_bd h hi).1) hk
  have h4 := (reserve_bd h.give).1
  have h5 : (giveB b).reserve = b.reserve - sumL (mapN b.n (amt b)) := rfl
  show 0 ≤ b.reserve - sumL (mapN k (amt b))
  omega
end Plain
/-- Three rows of numbers, apart, above a world. -/
structure SmI (W2 W : World) (A G S : Nat) (wa gi si : List Int) : Prop where
  ra : RowI W A wa
  rg : RowI W G gi
  rs : RowI W S si
  hA : W2.heap.size ≤ A
  hG : W2.heap.size ≤ G
  hS : W2.heap.size ≤ S
  AG : A ≠ G
  AS : A ≠ S
  GS : G ≠ S
  be : Below W2.heap.size W2 W
namespace SmI
variable {W2 W W' : World} {A G S : Nat} {wa gi si : List Int}
theorem drewN (h : SmI W2 W A G S wa gi si) (q : Nat) : SmI W2 (W.drewN q) A G S wa gi si := ⟨h.ra.of_block rfl, h.rg.of_block rfl, h.rs.of_block rfl, h.hA, h.hG, h.hS, h.AG, h.AS, h.GS, below_drewN h.be q⟩
theorem zero_row (W : World) : RowI (W.alloc (.cells (madeCells #[.int .i64 0] 3) 3)) W.heap.size (Plain.zeros 3) :=
  RowI.of_rowIs (World.rowIs_made W (.int .i64 0) 3 3) (by rw [Plain.zeros_len]; exact Nat.le_refl _) (fun i _ => by rw [Plain.zeros_at])
theorem start (W : World) : SmI W (((W.alloc (.cells (madeCells #[.int .i64 0] 3) 3)).alloc (.cells (madeCells #[.int .i64 0] 3) 3)).alloc (.cells (madeCells #[.int .i64 0] 3) 3)) W.heap.size (W.heap.size + 1) (W.heap.size + 1 + 1) (Plain.zeros 3) (Plain.zeros 3) (Plain.zeros 3) := by
  obtain ⟨o, ho⟩ : ∃ o : Obj, o = .cells (madeCells #[.int .i64 0] 3) 3 := ⟨_, rfl⟩
  have z0 := zero_row W
  have z1 := zero_row (W.alloc o)
  have z2 := zero_row ((W.alloc o).alloc o)
  rw [← ho] at z0 z1 z2 ⊢
  have s1 : (W.alloc o).heap.size = W.heap.size + 1 := by simp
  have s2 : ((W.alloc o).alloc o).heap.size = W.heap.size + 1 + 1 := by simp
  rw [s1] at z1
  rw [s2] at z2
  have b2 : Below (W.alloc o).heap.size (W.alloc o) ((W.alloc o).alloc o) := (Below.refl _ _).alloc (Nat.le_refl _) _
  have b3 : Below ((W.alloc o).alloc o).heap.size ((W.alloc o).alloc o) (((W.alloc o).alloc o).alloc o) := (Below.refl _ _).alloc (Nat.le_refl _) _
  exact ⟨(z0.below b2 z0.lt).below b3 (by omega), z1.below b3 z1.lt, z2, Nat.le_refl _, by omega, by omega, by omega, by omega, by omega, (((Below.refl _ _).alloc (Nat.le_refl _) _).alloc (by omega) _).alloc (by omega) _⟩
/-- Since anew. -/
theorem fresh (h : SmI W2 W A G S wa gi si) : SmI W2 (W.alloc (.cells (madeCells #[.int .i64 0] 3) 3)) A G W.heap.size wa gi (Plain.zeros 3) := by
  have b : Below W.heap.size W (W.alloc (.cells (madeCells #[.int .i64 0] 3) 3)) := (Below.refl _ _).alloc (Nat.le_refl _) _
  have hA := h.ra.lt
  have hG := h.rg.lt
  exact ⟨h.ra.below b hA, h.rg.below b hG, zero_row W, h.hA, h.hG, h.be.size, h.AG, by omega, by omega, h.be.trans (b.mono h.be.size)⟩
theorem want (h : SmI W2 W A G S wa gi si) (i : Nat) (hi : i < wa.length) (x : Int) : SmI W2 (W.setCell ⟨A, i, none⟩ (.int .i64 x)) A G S (wa.set i x) gi si :=
  ⟨h.ra.set i hi x, RowI.other h.rg (fun e => h.AG e.symm) _, RowI.other h.rs (fun e => h.AS e.symm) _, h.hA, h.hG, h.hS, h.AG, h.AS, h.GS, h.be.setCell (p := ⟨A, i, none⟩) h.hA _⟩
theorem gave (h : SmI W2 W A G S wa gi si) (i : Nat) (hi : i < gi.length) (hs : i < si.length) (x y : Int) : SmI W2 ((W.setCell ⟨S, i, none⟩ (.int .i64 y)).setCell ⟨G, i, none⟩ (.int .i64 x)) A G S wa (gi.set i x) (si.set i y) :=
  ⟨RowI.other (RowI.other h.ra h.AS _) h.AG _, (RowI.other h.rg h.GS _).set i hi x, RowI.other (h.rs.set i hs y) (fun e => h.GS e.symm) _, h.hA, h.hG, h.hS, h.AG, h.AS, h.GS, (h.be.setCell (p := ⟨S, i, none⟩) h.hS _).setCell (p := ⟨G, i, none⟩) h.hG _⟩
end SmI
end Go.Proofs.Ytiolkeghgodggaj.Bo
