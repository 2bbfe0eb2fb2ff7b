/-
  The document's play of calls, in memory: the broker, and what was told, in a row that grows.
-/
import Derived.Test.YtiolkeghgodggajX3
import Derived.Test.YtiolkeghgodggajXn
namespace Go.Proofs.Ytiolkeghgodggaj.Bo
open Go.RowKit Go.Shelf Go.Sort

/-- append of one struct onto a row of the call's own. -/
theorem _root_.Go.Proofs.Ytiolkeghgodggaj.Enc.snoc {α : Type} {E : Enc α} {W : World} {B n t e bytes : Nat} {i : TypeInfo} {z v : Value} {l : List α} (ht : Try.prog.underlying t = some (.slice e)) (hi : Try.prog.info? e = some i) (hz : i.zero = some z) (hsize : i.size = E.n) (hby : i.bytes = bytes) (hzs : z.cells.size = E.n)
    (hown : W.ownsRow B e E.n v n (E.vals l)) (hn : l.length = n) (hb : n ≤ 1000) (hbytes : (n + 1) * bytes ≤ 140737488355328) (hB : B ≤ W.heap.size) (a : α) :
    ∃ p c U, (Builtin.append_ #[t, t] t #[v, .slice (some ⟨W.heap.size, 0, none⟩) 1 1]).run Try.prog (W.alloc (.cells (E.enc a).toArray e)) = .ok (.slice p (n + 1) c) U ∧ U.ownsRow B e E.n (.slice p (n + 1) c) (n + 1) (E.vals (l ++ [a])) ∧
      (W.alloc (.cells (E.enc a).toArray e)).grownBy U v.ownBlock := by
  have bel : Below W.heap.size W (W.alloc (.cells (E.enc a).toArray e)) := (Below.refl _ _).alloc (Nat.le_refl _) _
  obtain ⟨v', U, h1, h2, h3⟩ := E.app (m := 1) (c := 1) (q := [a]) ht hi hz hsize hby hzs (owns_grow hown bel) (E.one_holds W a e) rfl (fun e => by cases e) (by omega) hbytes (Nat.le_trans hB bel.size)
  obtain ⟨p, c, rfl, _⟩ := E.owns h2 (by rw [List.length_append, hn]; rfl)
  exact ⟨p, c, U, h1, h2, h3⟩
/-- A block of rulings. -/
def isRu (W : World) (k : Nat) : Prop := ∃ cs fr, W.heap[k]? = some (.cells cs 44 fr)
theorem not_ru {W : World} {b t n : Nat} {f : Nat → Value} (r : W.rowIs b t n f) (ht : t ≠ 44) : ¬ isRu W b := fun ⟨cs, fr, x⟩ => by
  obtain ⟨c, hc, _⟩ := r
  rw [hc] at x
  simp at x
  exact ht x.2.1
theorem not_ruI {W : World} {b : Nat} {l : List Int} (r : RowI W b l) : ¬ isRu W b := fun ⟨cs, fr, x⟩ => by
  obtain ⟨c, hc, _⟩ := r
  rw [hc] at x
  simp at x
theorem own_ru {W : World} {B n b : Nat} {v : Value} {xs : List Value} (h : W.ownsRow B 44 3 v n xs) (hb : v.ownBlock = some b) : isRu W b := by
  rcases h.2 with ⟨rfl, _⟩ | ⟨g, c, cur, rfl, _, hg, _⟩
  · simp [Value.ownBlock] at hb
  · simp only [Value.ownBlock, Option.some.injEq] at hb
    subst hb
    exact ⟨cur, _, hg⟩
theorem Ns.keepT {F F' : Nat → Prop} {w w' : World} {p : Option Addr} {c : Nat} {l : List Int} (h : Ns (fun k => F k ∨ isRu w k) w p c l) (g : Un (fun k => F k ∨ isRu w k) w w') (hf : ∀ k, k < w.heap.size → F' k → F k) : Ns (fun k => F' k ∨ isRu w' k) w' p c l := ⟨h.nl, fun h0 => by
  obtain ⟨b, off, rfl, hb, hk, hc⟩ := h.cl h0
  have e := g.block b hb hk
  refine ⟨b, off, rfl, Nat.lt_of_lt_of_le hb g.size, fun x => ?_, fun j hj => ?_⟩
  · rcases x with x | ⟨cs, fr, x⟩
    · exact hk (.inl (hf b hb x))
    · exact hk (.inr ⟨cs, fr, by rw [← e]; exact x⟩)
  · rw [← hc j hj]
    simp only [World.cell?, e]⟩
theorem Un.weak {F F' : Nat → Prop} {w w' : World} (h : Un F w w') (hf : ∀ k, k < w.heap.size → F k → F' k) : Un F' w w' := ⟨h.os, h.tape, h.output, h.size, fun k hk x => h.block k hk (fun y => x (hf k hk y))⟩
theorem RbI.nru {B R A G S Q : Nat} {W : World} {b : Plain.Bk} (h : RbI B R A G S Q W b) (k : Nat) (hk : Fr R A G S k ∨ k = Q) : ¬ isRu W k := by
  rcases hk with (rfl | rfl | rfl | rfl) | rfl
  · exact not_ru h.row (by decide)
  · exact not_ruI h.ra
  · exact not_ruI h.rg
  · exact not_ruI h.rs
  · exact not_ruI h.rq
/-- The document's broker, and what was told. -/
structure QlI (w W : World) (R A G S Q : Nat) (vd : Value) (b : Plain.Bk) (D : List RU) : Prop where
  bk : RbI w.heap.size R A G S Q W b
  dw : W.ownsRow w.heap.size 44 3 vd D.length (encU.vals D)
  bs : ∀ r, r ∈ D → Ns (fun k => Fr R A G S k ∨ isRu W k) W r.p r.c r.d.grants
  be : Below w.heap.size w W
namespace QlI
variable {w W W' : World} {R A G S Q S' Q' : Nat} {vd : Value} {b b' : Plain.Bk} {D : List RU}
/-- The broker has turned. -/
theorem step (h : QlI w W R A G S Q vd b D) (bk : RbI w.heap.size R A G S' Q' W' b') (u : Un (Fr R A G S) W W') (hf : ∀ k, k < W.heap.size → Fr R A G S' k → Fr R A G S k) : QlI w W' R A G S' Q' vd b' D :=
  ⟨bk, owns_block h.dw fun k hk => u.block k (by have := (h.dw.lt k hk).2; omega) (fun x => h.bk.nru k (.inl x) (own_ru h.dw hk)), fun r hr => (h.bs r hr).keepT (u.weak fun _ _ x => .inl x) hf, h.be.trans (u.below h.be.size (fun k x => h.bk.fge k x))⟩
/-- Rulings have turned, but those that were told. -/
theorem rul (h : QlI w W R A G S Q vd b D) (u : Un (isRu W) W W') (dw : W'.ownsRow w.heap.size 44 3 vd D.length (encU.vals D)) (hB : ∀ k, isRu W k → W'.heap[k]? ≠ W.heap[k]? → w.heap.size ≤ k) : QlI w W' R A G S Q vd b D :=
  ⟨h.bk.other fun k hk x => u.block k hk (h.bk.nru k x), dw, fun r hr => (h.bs r hr).keepT (u.weak fun _ _ x => .inr x) (fun _ _ x => x), h.be.trans ⟨u.os, u.tape, u.output, u.size, fun k hk => by
    by_cases e : W'.heap[k]? = W.heap[k]?
    · exact e
    · by_cases y : isRu W k
      · have := hB k y e; omega
      · exact u.block k (Nat.lt_of_lt_of_le hk h.be.size) y⟩⟩
theorem grow (h : QlI w W R A G S Q vd b D) (g : Below W.heap.size W W') : QlI w W' R A G S Q vd b D :=
  ⟨h.bk.grow g, owns_grow h.dw g, fun r hr => (h.bs r hr).keepT (Un.of_below g) (fun _ _ x => x), h.be.trans (g.mono h.be.size)⟩
/-- A store into a box of what is told. -/
theorem put {X i : Nat} {n : Nat} {f : Nat → Value} (h : QlI w W R A G S Q vd b D) (hr : W.rowIs X 44 n f) (hne : vd.ownBlock ≠ some X) (hX : w.heap.size ≤ X) (v : Value) : QlI w (W.setCell ⟨X, i, none⟩ v) R A G S Q vd b D := by
  have hx : isRu W X := by obtain ⟨c, hc, _⟩ := hr; exact ⟨c, _, hc⟩
  refine h.rul (Un.set hx i v) (ownsRow_setCell_other h.dw hne _) (fun k _ e => ?_)
  by_cases y : k = X
  · omega
  · exact absurd (Below.heap_setCell W ⟨X, i, none⟩ v k y) e
/-- One told more. -/
theorem snoc (h : QlI w W R A G S Q vd b D) (hb : D.length ≤ 1000) (y : RU) (hy : Ns (fun k => Fr R A G S k ∨ isRu W k) W y.p y.c y.d.grants) :
    ∃ p c U, (Builtin.append_ #[40, 40] 40 #[vd, .slice (some ⟨W.heap.size, 0, none⟩) 1 1]).run Try.prog (W.alloc (.cells (encU.enc y).toArray 44)) = .ok (.slice p (D.length + 1) c) U ∧
      QlI w U R A G S Q (.slice p (D.length + 1) c) b (D ++ [y]) := by
  obtain ⟨j0, ji, jz0, jz1, jz2⟩ := info_parts Try.infoRu
  obtain ⟨p, c, U, h1, h2, h3⟩ := Enc.snoc (E := encU) Try.underlying40 ji jz0 jz1 jz2 rfl h.dw rfl hb (by omega) h.be.size y
  have bel : Below W.heap.size W (W.alloc (.cells (encU.enc y).toArray 44)) := (Below.refl _ _).alloc (Nat.le_refl _) _
  obtain ⟨W1, hW1⟩ : ∃ W1, W1 = W.alloc (.cells (encU.enc y).toArray 44) := ⟨_, rfl⟩
  rw [← hW1] at h3 bel
  have k1 := h.grow bel
  have u : Un (isRu W1) W1 U := ⟨h3.os, h3.tape, h3.output, h3.size, fun k hk x => h3.block k hk (fun e => x (own_ru k1.dw e.symm))⟩
  have hlen : (D ++ [y]).length = D.length + 1 := by simp
  have hy1 : Ns (fun k => Fr R A G S k ∨ isRu W1 k) W1 y.p y.c y.d.grants := hy.keepT (Un.of_below bel) (fun _ _ x => x)
  refine ⟨p, c, U, h1, ⟨k1.bk.other fun k hk x => u.block k hk (k1.bk.nru k x), by rw [hlen]; exact h2, fun r hr => ?_, k1.be.trans ⟨u.os, u.tape, u.output, u.size, fun k hk => h3.block k (Nat.lt_of_lt_of_le hk k1.be.size) (fun e => by have := (k1.dw.lt k e.symm).1; omega)⟩⟩⟩
  rcases List.mem_append.1 hr with m | m
  · exact (k1.bs r m).keepT (u.weak fun _ _ x => .inr x) (fun _ _ x => x)
  · have e : r = y := by simpa using m
    subst e
    exact hy1.keepT (u.weak fun _ _ x => .inr x) (fun _ _ x => x)
end QlI
/-- Ahead of the switch: the call's box, and that of what is told. -/
structure XQ (w W : World) (X R A G S Q : Nat) (vd : Value) (b : Plain.Bk) (D : List RU) (c : Plain.Ca) (t : RU) : Prop where
  ql : QlI w W R A G S Q vd b D
  xb : CellC W X 0 c
  rb : W.rowIs (X + 1) 44 3 (ruF t)
  nx : vd.ownBlock ≠ some (X + 1)
  hX : w.heap.size ≤ X
/-- Behind the switch. -/
def Beh (w W : World) (X R A G : Nat) (vd : Value) (b : Plain.Bk) (D : List RU) (c : Plain.Ca) : Prop :=
  ∃ S Q t, QlI w W R A G S Q vd (Plain.caB b c) D ∧ W.rowIs (X + 1) 44 3 (ruF t) ∧ t.d = Plain.caT b c ∧ Ns (fun k => Fr R A G S k ∨ isRu W k) W t.p t.c t.d.grants
theorem XQ.start {w wr : World} {R A G S Q : Nat} {vd : Value} {b : Plain.Bk} {D : List RU} (h : QlI w wr R A G S Q vd b D) (c : Plain.Ca) : XQ w ((wr.alloc (boxC c)).alloc (.cells #[.int .i64 0, .slice none 0 0, .int .i64 (-1)] 44)) wr.heap.size R A G S Q vd b D c ⟨⟨0, [], -1⟩, none, 0⟩ := by
  have g : Below wr.heap.size wr ((wr.alloc (boxC c)).alloc (.cells #[.int .i64 0, .slice none 0 0, .int .i64 (-1)] 44)) := ((Below.refl _ _).alloc (Nat.le_refl _) _).alloc (by simp) _
  refine ⟨h.grow g, ⟨?_, ?_, ?_⟩, ?_, fun e => by have := (h.dw.lt _ e).2; omega, h.be.size⟩
  · rw [World.cell?_alloc_lt _ _ _ (by simp), World.cell?_alloc_at _ _ _ _ rfl]; rfl
  · rw [World.cell?_alloc_lt _ _ _ (by simp), World.cell?_alloc_at _ _ _ _ rfl]; rfl
  · rw [World.cell?_alloc_lt _ _ _ (by simp), World.cell?_alloc_at _ _ _ _ rfl]; rfl
  · have := rowU_new (wr.alloc (boxC c)) ⟨⟨0, [], -1⟩, none, 0⟩
    simpa using this
variable {w W W' : World} {X R A G S Q : Nat} {vd : Value} {b : Plain.Bk} {D : List RU} {c : Plain.Ca}
/-- A call that is refused. -/
theorem beh_no {E : Nat} (h : XQ w W X R A G S Q vd b D c ⟨⟨0, [], -1⟩, none, 0⟩) (hE : Plain.caE b c = E) (h0 : E ≠ 0) (q : Nat) : Beh w ((W.drewN q).setCell ⟨X + 1, 0, none⟩ (.int .i64 (E : Nat))) X R A G vd b D c := by
  have hB : Plain.caB b c = b := by unfold Plain.caB; rw [hE, if_pos h0]
  have hT : Plain.caT b c = ⟨E, [], -1⟩ := by unfold Plain.caT; rw [hE, if_pos h0]
  have rb : (W.drewN q).rowIs (X + 1) 44 3 (ruF ⟨⟨0, [], -1⟩, none, 0⟩) := h.rb.of_block rfl
  refine ⟨S, Q, ⟨⟨E, [], -1⟩, none, 0⟩, by rw [hB]; exact (h.ql.grow (below_drewN (Below.refl _ _) q)).put rb h.nx (by have := h.hX; omega) _, ?_, hT.symm, Ns.nil _ _⟩
  refine (rb.set 0 _).congr fun j hj => ?_
  have : j = 0 ∨ j = 1 ∨ j = 2 := by omega
  rcases this with rfl | rfl | rfl <;> rfl
/-- A call that turns the broker and tells nothing. -/
theorem beh_yes {b' : Plain.Bk} (h : XQ w W X R A G S Q vd b D c ⟨⟨0, [], -1⟩, none, 0⟩) (hk : c.kind ≠ 3) (hE : Plain.caE b c = 0) (hB : Plain.caB b c = b') (bk : RbI w.heap.size R A G S Q W' b') (u : Un (Fr R A G S) W W') (q : Nat) : Beh w (W'.drewN q) X R A G vd b D c := by
  have hT : Plain.caT b c = ⟨0, [], -1⟩ := by unfold Plain.caT; rw [hE, if_neg (by decide), if_neg hk]
  have ql : QlI w W' R A G S Q vd b' D := h.ql.step bk u (fun _ _ x => x)
  have hnF : ¬ Fr R A G S (X + 1) := fun x => h.ql.bk.nru _ (.inl x) (by obtain ⟨c, hc, _⟩ := h.rb; exact ⟨c, _, hc⟩)
  exact ⟨S, Q, ⟨⟨0, [], -1⟩, none, 0⟩, by rw [hB]; exact ql.grow (below_drewN (Below.refl _ _) q), (h.rb.of_block (u.block _ h.rb.lt hnF)).of_block rfl, hT.symm, Ns.nil _ _⟩
theorem RbI.stock {B : Nat} (h : RbI B R A G S Q W b) (hk : c.kind = 1) (hE : Plain.caE b c = 0) : RbI B R A G S Q ((W.setCell ⟨R, 5, none⟩ (.int .i64 (b.ever + c.count))).setCell ⟨R, 4, none⟩ (.int .i64 (b.reserve + c.count))) (Plain.caB b c) ∧ Un (Fr R A G S) W ((W.setCell ⟨R, 5, none⟩ (.int .i64 (b.ever + c.count))).setCell ⟨R, 4, none⟩ (.int .i64 (b.reserve + c.count))) := by
  have hB : Plain.caB b c = { b with ever := b.ever + c.count, reserve := b.reserve + c.count } := by
    unfold Plain.caB
    rw [hE, if_neg (by decide), if_neg (by omega), if_pos hk]
  have hok := h.ok.step c
  rw [hB] at hok ⊢
  refine ⟨h.boxed ?_ (fun k hk => by rw [Below.heap_setCell _ ⟨R, 4, none⟩ _ k hk, Below.heap_setCell _ ⟨R, 5, none⟩ _ k hk]) hok rfl rfl rfl rfl rfl rfl, (Un.set (.inl rfl) _ _).trans (Un.set (.inl rfl) _ _)⟩
  refine ((h.row.set 5 _).set 4 _).congr fun j hj => ?_
  have : j = 0 ∨ j = 1 ∨ j = 2 ∨ j = 3 ∨ j = 4 ∨ j = 5 ∨ j = 6 ∨ j = 7 ∨ j = 8 ∨ j = 9 := by omega
  rcases this with rfl | rfl | rfl | rfl | rfl | rfl | rfl | rfl | rfl | rfl <;> rfl
theorem RbI.want {B i : Nat} (h : RbI B R A G S Q W b) (hk : c.kind = 2) (hE : Plain.caE b c = 0) (hi : c.who = (i : Int)) (hlt : b.wants.getD i 0 < c.count) : RbI B R A G S Q (W.setCell ⟨A, i, none⟩ (.int .i64 c.count)) (Plain.caB b c) ∧ Un (Fr R A G S) W (W.setCell ⟨A, i, none⟩ (.int .i64 c.count)) := by
  obtain ⟨_, x1, x2, x3, x4⟩ := Plain.caE_want hE (by omega) (by omega)
  have hB : Plain.caB b c = { b with wants := b.wants.set i c.count } := by
    unfold Plain.caB
    rw [hE, if_neg (by decide), if_neg (by omega), if_neg (by omega), hi, Int.toNat_natCast, show max (b.wants.getD i 0) c.count = c.count by omega]
  have hok := h.ok.step c
  rw [hB] at hok ⊢
  have u : ∀ k, k ≠ A → (W.setCell ⟨A, i, none⟩ (.int .i64 c.count)).heap[k]? = W.heap[k]? := fun k hk => Below.heap_setCell _ ⟨A, i, none⟩ _ k hk
  have g := h.ge
  exact ⟨⟨h.row.of_block (u R g.RA), h.ra.set i (by rw [h.ok.lw]; omega) _, h.rg.of_block (u G (fun e => g.AG e.symm)), h.rs.of_block (u S (fun e => g.AS e.symm)), h.rq.of_block (u Q (fun e => g.AQ e.symm)), hok, h.n1, h.n8, h.tk, g⟩, Un.set (.inr (.inl rfl)) _ _⟩
theorem RbI.less {B i : Nat} (h : RbI B R A G S Q W b) (hk : c.kind = 2) (hE : Plain.caE b c = 0) (hi : c.who = (i : Int)) (hlt : ¬ b.wants.getD i 0 < c.count) : RbI B R A G S Q W (Plain.caB b c) := by
  obtain ⟨_, x1, x2, x3, x4⟩ := Plain.caE_want hE (by omega) (by omega)
  have hl : i < b.wants.length := by rw [h.ok.lw]; omega
  have hB : Plain.caB b c = b := by
    have e : b.wants.set i (b.wants.getD i 0) = b.wants := by
      rw [List.getD_eq_getElem?_getD, List.getElem?_eq_getElem hl]
      exact List.set_getElem_self hl
    unfold Plain.caB
    rw [hE, if_neg (by decide), if_neg (by omega), if_neg (by omega), hi, Int.toNat_natCast, show max (b.wants.getD i 0) c.count = b.wants.getD i 0 by omega, e]
  rw [hB]; exact h
/-- A round. -/
theorem beh_round {S' Q' g cc : Nat} (h : XQ w W X R A G S Q vd b D c ⟨⟨0, [], -1⟩, none, 0⟩) (hk : c.kind = 3) (bk : RbI w.heap.size R A G S' Q' W' (Plain.roundB b)) (u : Un (Fr R A G S) W W') (hr : RowI W' g (Plain.roundB b).given) (hg : W.heap.size ≤ g) (hF : ¬ Fr R A G S' g) (hf : ∀ k, k < W.heap.size → Fr R A G S' k → Fr R A G S k) :
    W'.rowIs (X + 1) 44 3 (ruF ⟨⟨0, [], -1⟩, none, 0⟩) ∧ Beh w ((W'.setCell ⟨X + 1, 1, none⟩ (.slice (some ⟨g, 0, none⟩) b.n cc)).setCell ⟨X + 1, 2, none⟩ (.int .i64 (Plain.reportB b))) X R A G vd b D c := by
  have hE : Plain.caE b c = 0 := by unfold Plain.caE; rw [if_pos hk]
  have hB : Plain.caB b c = Plain.roundB b := by unfold Plain.caB; rw [hE, if_neg (by decide), if_pos hk]
  have hT : Plain.caT b c = ⟨0, (Plain.roundB b).given, Plain.reportB b⟩ := by unfold Plain.caT; rw [hE, if_neg (by decide), if_pos hk]
  have hn : (Plain.roundB b).given.length = b.n := by rw [bk.ok.lg, Plain.roundB_n]
  have hnF : ¬ Fr R A G S (X + 1) := fun x => h.ql.bk.nru _ (.inl x) (by obtain ⟨c, hc, _⟩ := h.rb; exact ⟨c, _, hc⟩)
  have rb1 := h.rb.of_block (u.block _ h.rb.lt hnF)
  have ql : QlI w W' R A G S' Q' vd (Plain.roundB b) D := h.ql.step bk u hf
  have hX := h.hX
  have ql1 := ql.put (i := 1) rb1 h.nx (by omega) (.slice (some ⟨g, 0, none⟩) b.n cc)
  have rb2 := rb1.set 1 (.slice (some ⟨g, 0, none⟩) b.n cc)
  have ql2 := ql1.put (i := 2) rb2 h.nx (by omega) (.int .i64 (Plain.reportB b))
  have rb3 := rb2.set 2 (.int .i64 (Plain.reportB b))
  refine ⟨rb1, S', Q', ⟨⟨0, (Plain.roundB b).given, Plain.reportB b⟩, some ⟨g, 0, none⟩, cc⟩, by rw [hB]; exact ql2, rb3.congr fun j hj => ?_, hT.symm, ?_⟩
  · have : j = 0 ∨ j = 1 ∨ j = 2 := by omega
    rcases this with rfl | rfl | rfl
    · rfl
    · show Value.slice (some ⟨g, 0, none⟩) b.n cc = Value.slice (some ⟨g, 0, none⟩) (Plain.roundB b).given.length cc
      rw [hn]
    · rfl
  · have hgX : g ≠ X + 1 := by have := h.rb.lt; omega
    have r3 : RowI ((W'.setCell ⟨X + 1, 1, none⟩ (.slice (some ⟨g, 0, none⟩) b.n cc)).setCell ⟨X + 1, 2, none⟩ (.int .i64 (Plain.reportB b))) g (Plain.roundB b).given := RowI.other (RowI.other hr hgX _) hgX _
    exact Ns.of_row r3 (fun x => x.elim hF (not_ruI r3))
end Go.Proofs.Ytiolkeghgodggaj.Bo
