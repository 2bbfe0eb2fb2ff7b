/-
  The document's round, branch by branch.
-/
import Derived.Test.YtiolkeghgodggajX0
namespace Go.Proofs.Ytiolkeghgodggaj.Bo
open Go.RowKit Go.Shelf Go.Sort

namespace Plain
theorem givS_skip {b : Bk} {k : Nat} (h0 : amt b k = 0) : givS b (k + 1) = givS b k := by
  have e1 : (mapN b.n fun i => if i < k + 1 then b.given.getD i 0 + amt b i else b.given.getD i 0) = mapN b.n fun i => if i < k then b.given.getD i 0 + amt b i else b.given.getD i 0 := mapN_congr fun i _ => by
    by_cases h1 : i < k
    · rw [if_pos h1, if_pos (by omega)]
    · rw [if_neg h1]
      by_cases h2 : i = k
      · subst h2; rw [if_pos (by omega), h0]; omega
      · rw [if_neg (by omega)]
  have e2 : (mapN b.n fun i => if i < k + 1 then b.since.getD i 0 + amt b i else b.since.getD i 0) = mapN b.n fun i => if i < k then b.since.getD i 0 + amt b i else b.since.getD i 0 := mapN_congr fun i _ => by
    by_cases h1 : i < k
    · rw [if_pos h1, if_pos (by omega)]
    · rw [if_neg h1]
      by_cases h2 : i = k
      · subst h2; rw [if_pos (by omega), h0]; omega
      · rw [if_neg (by omega)]
  have e3 : b.reserve - sumL (mapN (k + 1) (amt b)) = b.reserve - sumL (mapN k (amt b)) := by rw [sumN_succ, h0]; omega
  unfold givS
  rw [e1, e2, e3]
/-- The broker when the round is counted. -/
def cntB (b : Bk) : Bk := { begB b with rounds := ((begB b).rounds + 1) % (begB b).ticks }
theorem cntB_ok {b : Bk} (h : Ok b) : Ok (cntB b) := by
  have h1 := h.beg
  exact ⟨h1.cap, h1.tk, Nat.mod_lt _ h1.tk, h1.lw, h1.lg, h1.ls, h1.lq, h1.wa, h1.gi, h1.si, h1.qu, h1.lf, h1.re, h1.ev, h1.em⟩
theorem cntB_n (b : Bk) : (cntB b).n = b.n := begB_n b
theorem cntB_all (b : Bk) : givS (cntB b) b.n = roundB b := by
  have := givS_all (begB b)
  rw [begB_n] at this
  exact this
theorem since_len (b : Bk) (k : Nat) : (givS b k).since.length = b.n := mapN_len _ _
end Plain
/-- In the document's round: the first k branches were given theirs. -/
structure GrI (R A G S Q : Nat) (w0 W : World) (b : Plain.Bk) (k : Nat) : Prop where
  row : W.rowIs R 71 10 (rbR A G S Q (Plain.givS b k))
  ra : RowI W A b.wants
  rg : RowI W G (Plain.givS b k).given
  rs : RowI W S (Plain.givS b k).since
  rq : RowI W Q b.quotas
  un : Un (Fr R A G S) w0 W
namespace GrI
variable {B R A G S Q k : Nat} {w0 W : World} {b : Plain.Bk}
theorem drewN (h : GrI R A G S Q w0 W b k) (q : Nat) : GrI R A G S Q w0 (W.drewN q) b k :=
  ⟨h.row.of_block rfl, h.ra.of_block rfl, h.rg.of_block rfl, h.rs.of_block rfl, h.rq.of_block rfl, h.un.trans (Un.of_below (below_drewN (Below.refl _ _) q))⟩
theorem start (h : RbI B R A G S Q W b) : GrI R A G S Q W W b 0 := by
  have e := Plain.givS_zero h.ok
  exact ⟨by rw [e]; exact h.row, h.ra, by rw [e]; exact h.rg, by rw [e]; exact h.rs, h.rq, Un.refl _ _⟩
theorem skip (h : GrI R A G S Q w0 W b k) (h0 : Plain.amt b k = 0) : GrI R A G S Q w0 W b (k + 1) := by
  have e := Plain.givS_skip h0
  exact ⟨by rw [e]; exact h.row, h.ra, by rw [e]; exact h.rg, by rw [e]; exact h.rs, h.rq, h.un⟩
theorem step (h : GrI R A G S Q w0 W b k) (g : Gr B R A G S Q) (hk : k < b.n) : GrI R A G S Q w0 (((W.setCell ⟨G, k, none⟩ (.int .i64 (b.given.getD k 0 + Plain.amt b k))).setCell ⟨S, k, none⟩ (.int .i64 (b.since.getD k 0 + Plain.amt b k))).setCell ⟨R, 4, none⟩ (.int .i64 ((Plain.givS b k).reserve - Plain.amt b k))) b (k + 1) := by
  obtain ⟨W1, hW1⟩ : ∃ W1, W1 = W.setCell ⟨G, k, none⟩ (.int .i64 (b.given.getD k 0 + Plain.amt b k)) := ⟨_, rfl⟩
  obtain ⟨W2, hW2⟩ : ∃ W2, W2 = W1.setCell ⟨S, k, none⟩ (.int .i64 (b.since.getD k 0 + Plain.amt b k)) := ⟨_, rfl⟩
  rw [← hW1, ← hW2]
  have u1 : ∀ j, j ≠ G → W1.heap[j]? = W.heap[j]? := fun j hj => by rw [hW1]; exact Below.heap_setCell _ ⟨G, k, none⟩ _ j hj
  have u2 : ∀ j, j ≠ S → W2.heap[j]? = W1.heap[j]? := fun j hj => by rw [hW2]; exact Below.heap_setCell _ ⟨S, k, none⟩ _ j hj
  have rg1 : RowI W1 G (Plain.givS b (k + 1)).given := by
    rw [hW1, (Plain.givS_given hk).2]
    exact h.rg.set k (by rw [Plain.givS_len]; exact hk) _
  have rs2 : RowI W2 S (Plain.givS b (k + 1)).since := by
    rw [hW2, (Plain.givS_since hk).2]
    exact (h.rs.of_block (u1 S (fun e => g.GS e.symm))).set k (by rw [Plain.since_len]; exact hk) _
  have row2 := (h.row.of_block (u1 R g.RG)).of_block (u2 R g.RS)
  refine ⟨?_, RowI.other ((h.ra.of_block (u1 A g.AG)).of_block (u2 A g.AS)) (fun e => g.RA e.symm) _, RowI.other (rg1.of_block (u2 G g.GS)) (fun e => g.RG e.symm) _, RowI.other rs2 (fun e => g.RS e.symm) _, RowI.other ((h.rq.of_block (u1 Q (fun e => g.GQ e.symm))).of_block (u2 Q (fun e => g.SQ e.symm))) (fun e => g.RQ e.symm) _, ?_⟩
  · refine (row2.set 4 _).congr fun j hj => ?_
    have : j = 0 ∨ j = 1 ∨ j = 2 ∨ j = 3 ∨ j = 4 ∨ j = 5 ∨ j = 6 ∨ j = 7 ∨ j = 8 ∨ j = 9 := by omega
    rcases this with rfl | rfl | rfl | rfl | rfl | rfl | rfl | rfl | rfl | rfl
    · rfl
    · rfl
    · rfl
    · rfl
    · show Value.int .i64 ((Plain.givS b k).reserve - Plain.amt b k) = Value.int .i64 (Plain.givS b (k + 1)).reserve
      rw [Plain.givS_reserve]
    · rfl
    · rfl
    · rfl
    · rfl
    · rfl
  · have un1 : Un (Fr R A G S) W W1 := by rw [hW1]; exact Un.set (.inr (.inr (.inl rfl))) _ _
    have un2 : Un (Fr R A G S) W1 W2 := by rw [hW2]; exact Un.set (.inr (.inr (.inr rfl))) _ _
    exact ((h.un.trans un1).trans un2).trans (Un.set (.inl rfl) _ _)
end GrI
/-- What the document's round leaves. -/
def GiP (B R A G S : Nat) (b : Plain.Bk) (w : World) (e : Ending) (w' : World) : Prop :=
  ∃ S' Q' g c, e = .returned (.tuple #[.slice (some ⟨g, 0, none⟩) b.n c, .int .i64 (Plain.reportB b)]) ∧ RbI B R A G S' Q' w' (Plain.roundB b) ∧ Un (Fr R A G S) w w' ∧ RowI w' g (Plain.roundB b).given ∧ w.heap.size ≤ g ∧ (¬ Fr R A G S' g) ∧ ∀ k, k < w.heap.size → Fr R A G S' k → Fr R A G S k
theorem giP_all {B R A G S S' Q Q' : Nat} {b : Plain.Bk} {w w0 W U : World} {gc cc : Nat} (h : RbI B R A G S Q w b) (g : Gr B R A G S' Q') (gv : GrI R A G S' Q' w0 W (Plain.cntB b) b.n) (un0 : Un (Fr R A G S) w w0) (hf : ∀ k, k < w.heap.size → Fr R A G S' k → Fr R A G S k)
    (hr : RowI U gc (Plain.givS (Plain.cntB b) b.n).given) (hgc : W.heap.size ≤ gc) (bel : Below W.heap.size W U) (rep : Int) (hrep : rep = Plain.reportB b) :
    GiP B R A G S b w (.returned (.tuple #[.slice (some ⟨gc, 0, none⟩) b.n cc, .int .i64 rep])) U := by
  have hall := Plain.cntB_all b
  have u1 : Un (Fr R A G S) w W := un0.thenU gv.un hf
  refine ⟨S', Q', gc, cc, by rw [hrep], ?_, u1.trans (Un.of_below bel), by rw [← hall]; exact hr, Nat.le_trans u1.size hgc, fun x => ?_, hf⟩
  · refine ⟨?_, ?_, ?_, ?_, ?_, h.ok.round, by rw [Plain.roundB_n]; exact h.n1, by rw [Plain.roundB_n]; exact h.n8, by rw [Plain.roundB_ticks]; exact h.tk, g⟩
    · rw [← hall]; exact gv.row.of_block (bel.block _ gv.row.lt)
    · rw [Plain.roundB_wants]
      have e : (Plain.cntB b).wants = b.wants := Plain.begB_wants b
      rw [← e]; exact gv.ra.of_block (bel.block _ gv.ra.lt)
    · rw [← hall]; exact gv.rg.of_block (bel.block _ gv.rg.lt)
    · rw [← hall]; exact gv.rs.of_block (bel.block _ gv.rs.lt)
    · exact gv.rq.of_block (bel.block _ gv.rq.lt)
  · have hlt : gc < W.heap.size := by
      rcases x with rfl | rfl | rfl | rfl
      · exact gv.row.lt
      · exact gv.ra.lt
      · exact gv.rg.lt
      · exact gv.rs.lt
    omega
theorem RbI.begun {B R A G S Q Q' : Nat} {W W2 : World} {b : Plain.Bk} (h : RbI B R A G S Q W b) (h0 : b.rounds = 0) (hb : Below W.heap.size W W2) (hq : RowI W2 Q' (Plain.splitL b.reserve (List.replicate b.n b.cap))) (hQ : W.heap.size ≤ Q') (r2 : Nat) (hr2 : r2 = (b.rounds + 1) % b.ticks) :
    RbI B R A G W2.heap.size Q' ((((W2.setCell ⟨R, 9, none⟩ (.slice (some ⟨Q', 0, none⟩) b.n b.n)).alloc (.cells (madeCells #[.int .i64 0] b.n) 3)).setCell ⟨R, 8, none⟩ (.slice (some ⟨W2.heap.size, 0, none⟩) b.n b.n)).setCell ⟨R, 3, none⟩ (.int .i64 (r2 : Nat))) (Plain.cntB b) := by
  have h2 := h.grow hb
  have hsz := hb.size
  have lR := h.row.lt
  have lA := h.ra.lt
  have lG := h.rg.lt
  have lQ := hq.lt
  obtain ⟨W3, hW3⟩ : ∃ W3, W3 = W2.setCell ⟨R, 9, none⟩ (.slice (some ⟨Q', 0, none⟩) b.n b.n) := ⟨_, rfl⟩
  have s3 : W3.heap.size = W2.heap.size := by rw [hW3]; simp
  have u3 : ∀ j, j ≠ R → W3.heap[j]? = W2.heap[j]? := fun j hj => by rw [hW3]; exact Below.heap_setCell _ ⟨R, 9, none⟩ _ j hj
  have r3 := h2.row.set 9 (.slice (some ⟨Q', 0, none⟩) b.n b.n)
  rw [← hW3] at r3 ⊢
  obtain ⟨W4, hW4⟩ : ∃ W4, W4 = W3.alloc (.cells (madeCells #[.int .i64 0] b.n) 3) := ⟨_, rfl⟩
  have b4 : Below W3.heap.size W3 W4 := by rw [hW4]; exact (Below.refl _ _).alloc (Nat.le_refl _) _
  have m4 := World.rowIs_made W3 (.int .i64 0) b.n 3
  rw [s3] at m4
  rw [← hW4] at m4 ⊢
  have r4 := r3.of_block (b4.block R r3.lt)
  have u : ∀ v1 v2 j, j ≠ R → ((W4.setCell ⟨R, 8, none⟩ v1).setCell ⟨R, 3, none⟩ v2).heap[j]? = W4.heap[j]? := fun v1 v2 j hj => by rw [Below.heap_setCell _ ⟨R, 3, none⟩ _ j hj, Below.heap_setCell _ ⟨R, 8, none⟩ _ j hj]
  have uu : ∀ v1 v2 j, j ≠ R → j < W2.heap.size → ((W4.setCell ⟨R, 8, none⟩ v1).setCell ⟨R, 3, none⟩ v2).heap[j]? = W2.heap[j]? := fun v1 v2 j hj hl => by rw [u _ _ j hj, b4.block j (by omega), u3 j hj]
  have eb : Plain.begB b = { b with quotas := Plain.splitL b.reserve (List.replicate b.n b.cap), since := Plain.zeros b.n } := by unfold Plain.begB; rw [if_pos h0]
  have ec : Plain.cntB b = { b with quotas := Plain.splitL b.reserve (List.replicate b.n b.cap), since := Plain.zeros b.n, rounds := r2 } := by unfold Plain.cntB; rw [eb, hr2]
  have g := h.ge
  have hok := Plain.cntB_ok h.ok
  rw [ec] at hok ⊢
  refine ⟨?_, h2.ra.of_block (uu _ _ A (fun e => g.RA e.symm) (by omega)), h2.rg.of_block (uu _ _ G (fun e => g.RG e.symm) (by omega)), ?_, hq.of_block (uu _ _ Q' (by omega) lQ), hok, h.n1, h.n8, h.tk, ?_⟩
  · refine ((r4.set 8 _).set 3 _).congr fun j hj => ?_
    have : j = 0 ∨ j = 1 ∨ j = 2 ∨ j = 3 ∨ j = 4 ∨ j = 5 ∨ j = 6 ∨ j = 7 ∨ j = 8 ∨ j = 9 := by omega
    rcases this with rfl | rfl | rfl | rfl | rfl | rfl | rfl | rfl | rfl | rfl <;> rfl
  · refine RowI.of_block (RowI.of_rowIs m4 (by show (Plain.zeros b.n).length ≤ b.n; rw [Plain.zeros_len]; exact Nat.le_refl _) (fun i _ => by show Value.int .i64 0 = Value.int .i64 ((Plain.zeros b.n).getD i 0); rw [Plain.zeros_at])) (u _ _ _ (by omega))
  · have := g.hR
    exact ⟨g.hR, g.hA, g.hG, by omega, by omega, g.RA, g.RG, by omega, by omega, g.AG, by omega, by omega, by omega, by omega, by omega⟩
theorem snoc_int {w W : World} {n : Nat} {v : Value} {l : List Int} (x : Int) (own : W.ownsRow w.heap.size 3 1 v n (ivals l)) (hn : l.length = n) (hb : n ≤ 1000) (be : Below w.heap.size w W) :
    ∃ p c U, (Builtin.append_ #[29, 29] 29 #[v, .slice (some ⟨W.heap.size, 0, none⟩) 1 1]).run Try.prog (W.alloc (.cells #[.int .i64 x] 3)) = .ok (.slice p (n + 1) c) U ∧ U.ownsRow w.heap.size 3 1 (.slice p (n + 1) c) (n + 1) (ivals (l ++ [x])) ∧ Below w.heap.size w U := by
  obtain ⟨j0, ji, jz0, jz1, jz2⟩ := info_parts Try.infoInt
  have bel : Below W.heap.size W (W.alloc (.cells #[.int .i64 x] 3)) := (Below.refl _ _).alloc (Nat.le_refl _) _
  have o1 := owns_grow own bel
  obtain ⟨v', U, h1, h2, h3, _⟩ := run_append_own (P := Try.prog) (W.alloc (.cells #[.int .i64 x] 3)) w.heap.size 29 29 3 j0 (.int .i64 0) 1 8 Try.underlying29 ji jz0 jz1 jz2 rfl (by decide) v n _ o1 ⟨W.heap.size, 0, none⟩ 1 1 [.int .i64 x]
    rfl (fun j u hu => by
      match j, hu with
      | 0, hu =>
        simp at hu; subst hu
        rw [add_at', World.cell?_alloc_at _ _ _ _ rfl]; rfl) (fun u hu => by simp at hu; subst hu; rfl) (by unfold maxLen; omega) (by omega) (Nat.le_trans be.size bel.size)
  obtain ⟨g, c, rfl⟩ := owns_some h2 (by omega)
  refine ⟨_, c, U, h1, by rw [ivals_snoc]; exact h2, (be.trans (bel.mono be.size)).grown h3 (Nat.le_trans be.size bel.size) (fun j hj => (own.lt j hj).1)⟩
end Go.Proofs.Ytiolkeghgodggaj.Bo
