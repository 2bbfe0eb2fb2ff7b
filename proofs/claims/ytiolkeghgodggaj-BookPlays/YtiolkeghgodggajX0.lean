/-
  The document's broker in memory; NewBroker.
-/
import Derived.Test.YtiolkeghgodggajY9
import Derived.Test.YtiolkeghgodggajHe
namespace Go.Proofs.Ytiolkeghgodggaj.Bo
open Go.RowKit Go.Shelf Go.Sort

def rbR (A G S Q : Nat) (b : Plain.Bk) (j : Nat) : Value :=
  if j = 0 then .int .i64 (b.n : Nat) else if j = 1 then .int .i64 b.cap else if j = 2 then .int .i64 (b.ticks : Nat) else if j = 3 then .int .i64 (b.rounds : Nat) else if j = 4 then .int .i64 b.reserve else if j = 5 then .int .i64 b.ever
  else if j = 6 then .slice (some ⟨A, 0, none⟩) b.n b.n else if j = 7 then .slice (some ⟨G, 0, none⟩) b.n b.n else if j = 8 then .slice (some ⟨S, 0, none⟩) b.n b.n else .slice (some ⟨Q, 0, none⟩) b.n b.n
/-- What the document's broker may turn. -/
def Fr (R A G S : Nat) (k : Nat) : Prop := k = R ∨ k = A ∨ k = G ∨ k = S
/-- All apart. -/
structure Gr (B R A G S Q : Nat) : Prop where
  hR : B ≤ R
  hA : B ≤ A
  hG : B ≤ G
  hS : B ≤ S
  hQ : B ≤ Q
  RA : R ≠ A
  RG : R ≠ G
  RS : R ≠ S
  RQ : R ≠ Q
  AG : A ≠ G
  AS : A ≠ S
  AQ : A ≠ Q
  GS : G ≠ S
  GQ : G ≠ Q
  SQ : S ≠ Q
/-- The document's broker in memory. -/
structure RbI (B R A G S Q : Nat) (W : World) (b : Plain.Bk) : Prop where
  row : W.rowIs R 71 10 (rbR A G S Q b)
  ra : RowI W A b.wants
  rg : RowI W G b.given
  rs : RowI W S b.since
  rq : RowI W Q b.quotas
  ok : Plain.Ok b
  n1 : 1 ≤ b.n
  n8 : b.n ≤ 8
  tk : b.ticks ≤ 8
  ge : Gr B R A G S Q
namespace RbI
variable {B R A G S Q : Nat} {W W' : World} {b b' : Plain.Bk}
theorem grow (h : RbI B R A G S Q W b) (g : Below W.heap.size W W') : RbI B R A G S Q W' b :=
  ⟨h.row.of_block (g.block _ h.row.lt), h.ra.of_block (g.block _ h.ra.lt), h.rg.of_block (g.block _ h.rg.lt), h.rs.of_block (g.block _ h.rs.lt), h.rq.of_block (g.block _ h.rq.lt), h.ok, h.n1, h.n8, h.tk, h.ge⟩
theorem fge (h : RbI B R A G S Q W b) (k : Nat) (hk : Fr R A G S k) : B ≤ k := by
  have := h.ge
  rcases hk with rfl | rfl | rfl | rfl
  · exact this.hR
  · exact this.hA
  · exact this.hG
  · exact this.hS
theorem flt (h : RbI B R A G S Q W b) (k : Nat) (hk : Fr R A G S k) : k < W.heap.size := by
  rcases hk with rfl | rfl | rfl | rfl
  · exact h.row.lt
  · exact h.ra.lt
  · exact h.rg.lt
  · exact h.rs.lt
theorem hB (h : RbI B R A G S Q W b) : B ≤ W.heap.size := by have := h.row.lt; have := h.ge.hR; omega
theorem c0 (h : RbI B R A G S Q W b) : W.cell? ⟨R, 0, none⟩ = some (.int .i64 (b.n : Nat)) := h.row.cell (i := 0) (by omega)
theorem c1 (h : RbI B R A G S Q W b) : W.cell? ⟨R, 1, none⟩ = some (.int .i64 b.cap) := h.row.cell (i := 1) (by omega)
theorem c2 (h : RbI B R A G S Q W b) : W.cell? ⟨R, 2, none⟩ = some (.int .i64 (b.ticks : Nat)) := h.row.cell (i := 2) (by omega)
theorem c3 (h : RbI B R A G S Q W b) : W.cell? ⟨R, 3, none⟩ = some (.int .i64 (b.rounds : Nat)) := h.row.cell (i := 3) (by omega)
theorem c4 (h : RbI B R A G S Q W b) : W.cell? ⟨R, 4, none⟩ = some (.int .i64 b.reserve) := h.row.cell (i := 4) (by omega)
theorem c5 (h : RbI B R A G S Q W b) : W.cell? ⟨R, 5, none⟩ = some (.int .i64 b.ever) := h.row.cell (i := 5) (by omega)
theorem c6 (h : RbI B R A G S Q W b) : W.cell? ⟨R, 6, none⟩ = some (.slice (some ⟨A, 0, none⟩) b.n b.n) := h.row.cell (i := 6) (by omega)
theorem c7 (h : RbI B R A G S Q W b) : W.cell? ⟨R, 7, none⟩ = some (.slice (some ⟨G, 0, none⟩) b.n b.n) := h.row.cell (i := 7) (by omega)
theorem c8 (h : RbI B R A G S Q W b) : W.cell? ⟨R, 8, none⟩ = some (.slice (some ⟨S, 0, none⟩) b.n b.n) := h.row.cell (i := 8) (by omega)
theorem c9 (h : RbI B R A G S Q W b) : W.cell? ⟨R, 9, none⟩ = some (.slice (some ⟨Q, 0, none⟩) b.n b.n) := h.row.cell (i := 9) (by omega)
/-- Another world in which only the box has turned. -/
theorem boxed (h : RbI B R A G S Q W b) (row : W'.rowIs R 71 10 (rbR A G S Q b')) (u : ∀ k, k ≠ R → W'.heap[k]? = W.heap[k]?) (ok : Plain.Ok b') (hw : b'.wants = b.wants) (hg : b'.given = b.given) (hs : b'.since = b.since) (hq : b'.quotas = b.quotas) (hn : b'.n = b.n) (ht : b'.ticks = b.ticks) : RbI B R A G S Q W' b' :=
  ⟨row, by rw [hw]; exact h.ra.of_block (u A (fun e => h.ge.RA e.symm)), by rw [hg]; exact h.rg.of_block (u G (fun e => h.ge.RG e.symm)), by rw [hs]; exact h.rs.of_block (u S (fun e => h.ge.RS e.symm)), by rw [hq]; exact h.rq.of_block (u Q (fun e => h.ge.RQ e.symm)), ok, by rw [hn]; exact h.n1, by rw [hn]; exact h.n8, by rw [ht]; exact h.tk, h.ge⟩
/-- A world in which other blocks have turned. -/
theorem other (h : RbI B R A G S Q W b) (u : ∀ k, k < W.heap.size → (Fr R A G S k ∨ k = Q) → W'.heap[k]? = W.heap[k]?) : RbI B R A G S Q W' b :=
  ⟨h.row.of_block (u R h.row.lt (.inl (.inl rfl))), h.ra.of_block (u A h.ra.lt (.inl (.inr (.inl rfl)))), h.rg.of_block (u G h.rg.lt (.inl (.inr (.inr (.inl rfl))))), h.rs.of_block (u S h.rs.lt (.inl (.inr (.inr (.inr rfl))))), h.rq.of_block (u Q h.rq.lt (.inr rfl)), h.ok, h.n1, h.n8, h.tk, h.ge⟩
theorem fresh {m t : Nat} {cap : Int} (hm1 : 1 ≤ m) (hm8 : m ≤ 8) (hc : 0 ≤ cap ∧ cap ≤ 1048576) (ht1 : 1 ≤ t) (ht8 : t ≤ 8) (row : W.rowIs R 71 10 (rbR A G S Q (Plain.Bk.new m cap t))) (ra : W.rowIs A 3 m (fun _ => .int .i64 0)) (rg : W.rowIs G 3 m (fun _ => .int .i64 0)) (rs : W.rowIs S 3 m (fun _ => .int .i64 0)) (rq : W.rowIs Q 3 m (fun _ => .int .i64 0)) (ge : Gr B R A G S Q) :
    RbI B R A G S Q W (Plain.Bk.new m cap t) := by
  have z : ∀ {k}, W.rowIs k 3 m (fun _ => .int .i64 0) → RowI W k (Plain.zeros m) := fun hh => RowI.of_rowIs hh (by rw [Plain.zeros_len]; exact Nat.le_refl _) (fun i _ => by rw [Plain.zeros_at])
  exact ⟨row, z ra, z rg, z rs, z rq, Plain.Ok.new hc (by omega), hm1, hm8, ht8, ge⟩
end RbI
theorem al5' (W : World) (o1 o2 o3 o4 o5 : Obj) : (((((W.alloc o1).alloc o2).alloc o3).alloc o4).alloc o5).heap[W.heap.size]? = some o1 ∧ (((((W.alloc o1).alloc o2).alloc o3).alloc o4).alloc o5).heap[W.heap.size + 1]? = some o2 ∧ (((((W.alloc o1).alloc o2).alloc o3).alloc o4).alloc o5).heap[W.heap.size + 1 + 1]? = some o3 ∧
    (((((W.alloc o1).alloc o2).alloc o3).alloc o4).alloc o5).heap[W.heap.size + 1 + 1 + 1]? = some o4 ∧ (((((W.alloc o1).alloc o2).alloc o3).alloc o4).alloc o5).heap[W.heap.size + 1 + 1 + 1 + 1]? = some o5 ∧ Below W.heap.size W (((((W.alloc o1).alloc o2).alloc o3).alloc o4).alloc o5) := by
  have new : ∀ (V : World) o k, V.heap.size = k → (V.alloc o).heap[k]? = some o := fun V o k hk => by rw [← hk]; exact Deep.blk_alloc_new V o
  have old : ∀ (V : World) o k, k < V.heap.size → (V.alloc o).heap[k]? = V.heap[k]? := fun V o k hk => ((Below.refl V.heap.size V).alloc (Nat.le_refl _) o).block k hk
  have s : ∀ (V : World) o, (V.alloc o).heap.size = V.heap.size + 1 := fun V o => by simp
  refine ⟨?_, ?_, ?_, ?_, ?_, (((((Below.refl _ _).alloc (Nat.le_refl _) _).alloc (by simp) _).alloc (by simp; omega) _).alloc (by simp; omega) _).alloc (by simp; omega) _⟩
  · rw [old _ _ _ (by rw [s, s, s, s]; omega), old _ _ _ (by rw [s, s, s]; omega), old _ _ _ (by rw [s, s]; omega), old _ _ _ (by rw [s]; omega), new _ _ _ rfl]
  · rw [old _ _ _ (by rw [s, s, s, s]; omega), old _ _ _ (by rw [s, s, s]; omega), old _ _ _ (by rw [s, s]; omega), new _ _ _ (by rw [s])]
  · rw [old _ _ _ (by rw [s, s, s, s]; omega), old _ _ _ (by rw [s, s, s]; omega), new _ _ _ (by rw [s, s])]
  · rw [old _ _ _ (by rw [s, s, s, s]; omega), new _ _ _ (by rw [s, s, s])]
  · exact new _ _ _ (by rw [s, s, s, s])

theorem al5 (W : World) (o1 o2 o3 o4 o5 : Obj) : (((((W.alloc o1).alloc o2).alloc o3).alloc o4).alloc o5).drew.heap[W.heap.size]? = some o1 ∧ (((((W.alloc o1).alloc o2).alloc o3).alloc o4).alloc o5).drew.heap[W.heap.size + 1]? = some o2 ∧ (((((W.alloc o1).alloc o2).alloc o3).alloc o4).alloc o5).drew.heap[W.heap.size + 1 + 1]? = some o3 ∧
    (((((W.alloc o1).alloc o2).alloc o3).alloc o4).alloc o5).drew.heap[W.heap.size + 1 + 1 + 1]? = some o4 ∧ (((((W.alloc o1).alloc o2).alloc o3).alloc o4).alloc o5).drew.heap[W.heap.size + 1 + 1 + 1 + 1]? = some o5 ∧ Below W.heap.size W (((((W.alloc o1).alloc o2).alloc o3).alloc o4).alloc o5).drew := by
  obtain ⟨h1, h2, h3, h4, h5, h6⟩ := al5' W o1 o2 o3 o4 o5
  exact ⟨h1, h2, h3, h4, h5, h6.drew⟩

theorem RbI.start {w wx : World} {R A G S Q bm tk : Nat} {mo : Int} (h1 : 1 ≤ bm ∧ bm ≤ 8) (h2 : 0 ≤ mo ∧ mo ≤ 1048576) (h3 : 1 ≤ tk ∧ tk ≤ 8)
    (hR : wx.heap[R]? = some (.cells #[.int .i64 (bm : Int), .int .i64 mo, .int .i64 (tk : Int), .int .i64 0, .int .i64 0, .int .i64 0, .slice (some ⟨A, 0, none⟩) bm bm, .slice (some ⟨G, 0, none⟩) bm bm, .slice (some ⟨S, 0, none⟩) bm bm, .slice (some ⟨Q, 0, none⟩) bm bm] 71)) (hA : wx.heap[A]? = some (.cells (madeCells #[.int .i64 0] bm) 3)) (hG : wx.heap[G]? = some (.cells (madeCells #[.int .i64 0] bm) 3)) (hS : wx.heap[S]? = some (.cells (madeCells #[.int .i64 0] bm) 3)) (hQ : wx.heap[Q]? = some (.cells (madeCells #[.int .i64 0] bm) 3))
    (ge : Gr w.heap.size R A G S Q) : RbI w.heap.size R A G S Q wx (Plain.Bk.new bm mo tk) := by
  have mk : ∀ {b}, wx.heap[b]? = some (.cells (madeCells #[.int .i64 0] bm) 3) → wx.rowIs b 3 bm (fun _ => .int .i64 0) := fun h => ⟨_, h, size_madeCells _ _, fun i hi => by simp [madeCells, hi, Nat.mod_one]⟩
  refine RbI.fresh h1.1 h1.2 h2 h3.1 h3.2 ⟨_, hR, rfl, fun i hi => ?_⟩ (mk hA) (mk hG) (mk hS) (mk hQ) ge
  have : i = 0 ∨ i = 1 ∨ i = 2 ∨ i = 3 ∨ i = 4 ∨ i = 5 ∨ i = 6 ∨ i = 7 ∨ i = 8 ∨ i = 9 := by omega
  rcases this with rfl | rfl | rfl | rfl | rfl | rfl | rfl | rfl | rfl | rfl <;> rfl

end Go.Proofs.Ytiolkeghgodggaj.Bo
