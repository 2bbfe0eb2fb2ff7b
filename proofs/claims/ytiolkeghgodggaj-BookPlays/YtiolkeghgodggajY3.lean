/-
  book: the broker in memory; stock, want.
-/
import Derived.Test.YtiolkeghgodggajY2
import Derived.Test.YtiolkeghgodggajWn
import Derived.BigRegion
namespace Go.Proofs.Ytiolkeghgodggaj.Bo
open Go.RowKit Go.Shelf Go.Sort

theorem _root_.Go.Proofs.Ytiolkeghgodggaj.Win.congr {X : Win} {w : World} {R o k : Nat} {g g' : Nat → Value} (h : w.rowIs R X.t X.n (X.f o k g)) (e : ∀ j, j < k → g j = g' j) : w.rowIs R X.t X.n (X.f o k g') :=
  World.rowIs.congr h fun j _ => by
    unfold Win.f
    by_cases hin : o ≤ j ∧ j < o + k
    · rw [if_pos hin, if_pos hin, e _ (by omega)]
    · rw [if_neg hin, if_neg hin]
namespace Plain
/-- What is left of the quotas. -/
def leftB (b : Bk) : List Int := mapN b.n fun i => b.quotas.getD i 0 - b.since.getD i 0
end Plain
def bkR (A G : Nat) (vl : Value) (b : Plain.Bk) (N : Nat) (j : Nat) : Value :=
  if j = 0 then .int .i64 b.cap else if j = 1 then .int .i64 (b.ticks : Nat) else if j = 2 then .int .i64 b.reserve else if j = 3 then .int .i64 b.ever
  else if j = 4 then .slice (some ⟨A, 0, none⟩) b.n b.n else if j = 5 then .slice (some ⟨G, 0, none⟩) b.n b.n else if j = 6 then vl else .int .i64 (N : Nat)
/-- What a broker's methods may turn. -/
def Fb (R A G : Nat) (vl : Value) (k : Nat) : Prop := k = R ∨ k = A ∨ k = G ∨ vl.ownBlock = some k
/-- The broker in memory. -/
structure BkI (B R oo : Nat) (XX : Win) (A G : Nat) (W : World) (vl : Value) (b : Plain.Bk) (N : Nat) : Prop where
  row : W.rowIs R XX.t XX.n (XX.f oo 8 (bkR A G vl b N))
  ra : RowI W A b.wants
  rg : RowI W G b.given
  ok : Plain.Ok b
  n1 : 1 ≤ b.n
  n8 : b.n ≤ 8
  rd : b.rounds = N % b.ticks
  lv : (N = 0 ∧ vl = .slice none 0 0) ∨ ∃ L, vl = .slice (some ⟨L, 0, none⟩) b.n b.n ∧ RowI W L (Plain.leftB b) ∧ B ≤ L ∧ L ≠ R ∧ L ≠ A ∧ L ≠ G
  hR : B ≤ R
  hA : B ≤ A
  hG : B ≤ G
  RA : R ≠ A
  RG : R ≠ G
  AG : A ≠ G
  tk : b.ticks ≤ 8
  le : oo + 8 ≤ XX.n
namespace BkI
variable {B R oo A G N : Nat} {XX : Win} {W W' : World} {vl : Value} {b : Plain.Bk}
theorem grow (h : BkI B R oo XX A G W vl b N) (g : Below W.heap.size W W') : BkI B R oo XX A G W' vl b N :=
  ⟨h.row.of_block (g.block _ h.row.lt), h.ra.of_block (g.block _ h.ra.lt), h.rg.of_block (g.block _ h.rg.lt), h.ok, h.n1, h.n8, h.rd, h.lv.imp id (fun ⟨L, x1, x2, x3⟩ => ⟨L, x1, x2.of_block (g.block _ x2.lt), x3⟩), h.hR, h.hA, h.hG, h.RA, h.RG, h.AG, h.tk, h.le⟩
theorem ge (h : BkI B R oo XX A G W vl b N) (k : Nat) (hk : Fb R A G vl k) : B ≤ k := by
  rcases hk with rfl | rfl | rfl | hk
  · exact h.hR
  · exact h.hA
  · exact h.hG
  · rcases h.lv with ⟨_, rfl⟩ | ⟨L, rfl, _, hL, _⟩
    · simp [Value.ownBlock] at hk
    · simp only [Value.ownBlock, Option.some.injEq] at hk
      omega
theorem lt (h : BkI B R oo XX A G W vl b N) (k : Nat) (hk : Fb R A G vl k) : k < W.heap.size := by
  rcases hk with rfl | rfl | rfl | hk
  · exact h.row.lt
  · exact h.ra.lt
  · exact h.rg.lt
  · rcases h.lv with ⟨_, rfl⟩ | ⟨L, rfl, hr, _⟩
    · simp [Value.ownBlock] at hk
    · simp only [Value.ownBlock, Option.some.injEq] at hk
      have := hr.lt
      omega
theorem c0 (h : BkI B R oo XX A G W vl b N) : W.cell? ⟨R, oo, none⟩ = some (.int .i64 b.cap) := Win.cell h.row h.le (i := 0) (by omega)
theorem c1 (h : BkI B R oo XX A G W vl b N) : W.cell? ⟨R, oo + 1, none⟩ = some (.int .i64 (b.ticks : Nat)) := Win.cell h.row h.le (i := 1) (by omega)
theorem c2 (h : BkI B R oo XX A G W vl b N) : W.cell? ⟨R, oo + 2, none⟩ = some (.int .i64 b.reserve) := Win.cell h.row h.le (i := 2) (by omega)
theorem c3 (h : BkI B R oo XX A G W vl b N) : W.cell? ⟨R, oo + 3, none⟩ = some (.int .i64 b.ever) := Win.cell h.row h.le (i := 3) (by omega)
theorem c4 (h : BkI B R oo XX A G W vl b N) : W.cell? ⟨R, oo + 4, none⟩ = some (.slice (some ⟨A, 0, none⟩) b.n b.n) := Win.cell h.row h.le (i := 4) (by omega)
theorem c5 (h : BkI B R oo XX A G W vl b N) : W.cell? ⟨R, oo + 5, none⟩ = some (.slice (some ⟨G, 0, none⟩) b.n b.n) := Win.cell h.row h.le (i := 5) (by omega)
theorem c6 (h : BkI B R oo XX A G W vl b N) : W.cell? ⟨R, oo + 6, none⟩ = some vl := Win.cell h.row h.le (i := 6) (by omega)
theorem c7 (h : BkI B R oo XX A G W vl b N) : W.cell? ⟨R, oo + 7, none⟩ = some (.int .i64 (N : Nat)) := Win.cell h.row h.le (i := 7) (by omega)
theorem hB (h : BkI B R oo XX A G W vl b N) : B ≤ W.heap.size := by have := h.row.lt; have := h.hR; omega
/-- Another world in which only the box has turned. -/
theorem boxed (h : BkI B R oo XX A G W vl b N) {b' : Plain.Bk} (row : W'.rowIs R XX.t XX.n (XX.f oo 8 (bkR A G vl b' N))) (u : ∀ k, k ≠ R → W'.heap[k]? = W.heap[k]?) (ok : Plain.Ok b') (hw : b'.wants = b.wants) (hg : b'.given = b.given) (hl : Plain.leftB b' = Plain.leftB b) (hn : b'.n = b.n) (hr : b'.rounds = b.rounds) (ht : b'.ticks = b.ticks) : BkI B R oo XX A G W' vl b' N :=
  ⟨row, by rw [hw]; exact h.ra.of_block (u A (fun e => h.RA e.symm)), by rw [hg]; exact h.rg.of_block (u G (fun e => h.RG e.symm)), ok, by rw [hn]; exact h.n1, by rw [hn]; exact h.n8, by rw [hr, ht]; exact h.rd,
    by rw [hn, hl]; exact h.lv.imp id (fun ⟨L, x1, x2, x3, x4, x5⟩ => ⟨L, x1, x2.of_block (u L x4), x3, x4, x5⟩), h.hR, h.hA, h.hG, h.RA, h.RG, h.AG, by rw [ht]; exact h.tk, h.le⟩
end BkI
/-- What a call leaves. -/
def CoP (B R oo : Nat) (XX : Win) (A G N : Nat) (vl : Value) (b : Plain.Bk) (c : Plain.Ca) (w : World) (e : Ending) (w' : World) : Prop :=
  e = .returned (.int .i64 (Plain.caE b c : Nat)) ∧ BkI B R oo XX A G w' vl (Plain.caB b c) N ∧ Un (Fb R A G vl) w w'
theorem coP_no {B R oo A G N E : Nat} {XX : Win} {vl : Value} {b : Plain.Bk} {c : Plain.Ca} {w : World} (h : BkI B R oo XX A G w vl b N) (hE : Plain.caE b c = E) (h0 : E ≠ 0) : CoP B R oo XX A G N vl b c w (.returned (.int .i64 (E : Nat))) w := by
  have hB : Plain.caB b c = b := by unfold Plain.caB; rw [hE, if_pos h0]
  exact ⟨by rw [hE], by rw [hB]; exact h, Un.refl _ _⟩

set_option maxHeartbeats 1000000 in
theorem stock_c (B R oo A G N : Nat) (XX : Win) (vl : Value) (b : Plain.Bk) (c : Plain.Ca) (hk : c.kind = 1) (w : World) (h : BkI B R oo XX A G w vl b N) :
    Calls Try.prog 27 #[.pointer (some ⟨R, oo, none⟩), .int .i64 c.count] w fun e w' => CoP B R oo XX A G N vl b c w e w' := by
  have hE : Plain.caE b c = if c.count < 1 ∨ 1048576 < c.count then 2 else if 1048576 < b.ever + c.count then 12 else 0 := by
    unfold Plain.caE
    rw [if_neg (by omega), if_pos hk]
  by_cases h1 : 1 ≤ c.count ∧ c.count ≤ 1048576
  · have K := from_t h1 w
    rw [if_neg (by omega)] at hE
    have e0 : -1 ≤ b.ever ∧ b.ever ≤ 1048576 ∧ 0 ≤ b.reserve ∧ b.reserve ≤ b.ever := by
      have := h.ok.ev
      have := h.ok.em
      have := h.ok.re
      have hs := Plain.sumN_nonneg (n := b.n) (f := fun i => b.given.getD i 0) (fun i hi => (h.ok.gi i hi).1)
      rw [← Plain.sumL_list h.ok.lg] at hs
      omega
    have r2 := h.c2
    have r3 := h.c3
    have f2 := h.row.frozen (oo + 2)
    have f3 := h.row.frozen (oo + 3)
    by_cases h2 : 1048576 < b.ever + c.count
    · rw [if_pos h2] at hE
      have P0 := hid (coP_no h hE (by decide))
      clear h hE
      obtain ⟨ck, cw, cc⟩ := c
      dsimp only at *
      generalize b.ever = ev at *
      go_enter Try.func27, Try.ntmps27
      go_wp2_with fail
      refine K.mono ?_
      rintro e wx ⟨rfl, hx⟩
      have hy := hx.symm
      clear hx K
      subst hy
      go_wp2
      go_ret
      exact P0.out
    · rw [if_neg h2] at hE
      have hB : Plain.caB b c = { b with ever := b.ever + c.count, reserve := b.reserve + c.count } := by
        unfold Plain.caB
        rw [hE, if_neg (by decide), if_neg (by omega), if_pos hk]
      have hok := h.ok.step c
      rw [hB] at hok
      obtain ⟨W1, hW1⟩ : ∃ W1, W1 = (w.setCell ⟨R, oo + 3, none⟩ (.int .i64 (b.ever + c.count))).setCell ⟨R, oo + 2, none⟩ (.int .i64 (b.reserve + c.count)) := ⟨_, rfl⟩
      have un : Un (Fb R A G vl) w W1 := by rw [hW1]; exact (Un.set (.inl rfl) _ _).trans (Un.set (.inl rfl) _ _)
      have P0 := hid (show CoP B R oo XX A G N vl b c w (.returned (.int .i64 ((0 : Nat) : Int))) W1 from ⟨by rw [hE], by
        rw [hB]
        refine h.boxed ?_ (fun k hk => ?_) hok rfl rfl rfl rfl rfl rfl
        · rw [hW1]
          refine Win.set (Win.set h.row 3 (by omega) _ (fun _ _ => rfl)) 2 (by omega) _ fun j hj => ?_
          have : j = 0 ∨ j = 1 ∨ j = 2 ∨ j = 3 ∨ j = 4 ∨ j = 5 ∨ j = 6 ∨ j = 7 := by omega
          rcases this with rfl | rfl | rfl | rfl | rfl | rfl | rfl | rfl <;> rfl
        · rw [hW1, Below.heap_setCell _ ⟨R, oo + 2, none⟩ _ k hk, Below.heap_setCell _ ⟨R, oo + 3, none⟩ _ k hk], un⟩)
      rw [hW1] at P0
      clear h hE hB hok un hW1
      obtain ⟨ck, cw, cc⟩ := c
      dsimp only at *
      generalize b.ever = ev at *
      generalize b.reserve = re at *
      go_enter Try.func27, Try.ntmps27
      go_wp2_with fail
      refine K.mono ?_
      rintro e wx ⟨rfl, hx⟩
      have hy := hx.symm
      clear hx K
      subst hy
      go_wp2
      go_ret
      exact P0.out
  · have K := from_f h1 w
    rw [if_pos (by omega)] at hE
    have P0 := hid (coP_no h hE (by decide))
    clear h hE h1
    generalize c.count = cc at *
    go_enter Try.func27, Try.ntmps27
    go_wp2_with fail
    refine K.mono ?_
    rintro e wx ⟨rfl, hx⟩
    have hy := hx.symm
    clear hx K
    subst hy
    go_wp2
    go_ret
    exact P0.out

set_option maxHeartbeats 2000000 in
theorem want_c (B R oo A G N : Nat) (XX : Win) (vl : Value) (b : Plain.Bk) (c : Plain.Ca) (hk : c.kind = 2) (w : World) (h : BkI B R oo XX A G w vl b N) :
    Calls Try.prog 28 #[.pointer (some ⟨R, oo, none⟩), .int .i64 c.who, .int .i64 c.count] w fun e w' => CoP B R oo XX A G N vl b c w e w' := by
  have hE : Plain.caE b c = if (c.who < 0 ∨ (b.n : Int) ≤ c.who) ∨ (c.count < 0 ∨ 1048576 < c.count) then 2 else 0 := by
    unfold Plain.caE
    rw [if_neg (by omega), if_neg (by omega), if_pos hk]
  have hn1 := h.n1
  have hn8 := h.n8
  have r4 := h.c4
  by_cases h1 : 0 ≤ c.who ∧ c.who ≤ (b.n : Int) - 1
  · have K1 := from_t h1 w
    by_cases h2 : 0 ≤ c.count ∧ c.count ≤ 1048576
    · have K2 := from_t h2 w
      rw [if_neg (by omega)] at hE
      have hB : Plain.caB b c = { b with wants := b.wants.set c.who.toNat (max (b.wants.getD c.who.toNat 0) c.count) } := by
        unfold Plain.caB
        rw [hE, if_neg (by decide), if_neg (by omega), if_neg (by omega)]
      have hok := h.ok.step c
      rw [hB] at hok
      have hi : c.who.toNat < b.wants.length := by rw [h.ok.lw]; omega
      have hra := h.ra.cell hi
      have hrf := h.ra.frozen c.who.toNat
      have hwb := h.ok.wa c.who.toNat (by omega)
      have P0 := hid (fun q m (hm : m = max (b.wants.getD c.who.toNat 0) c.count) => show CoP B R oo XX A G N vl b c w (.returned (.int .i64 ((0 : Nat) : Int))) ((w.drewN q).setCell ⟨A, c.who.toNat, none⟩ (.int .i64 m)) from ⟨by rw [hE], by
        rw [hB]
        have u : ∀ k, k ≠ A → ((w.drewN q).setCell ⟨A, c.who.toNat, none⟩ (.int .i64 m)).heap[k]? = w.heap[k]? := fun k hk => Below.heap_setCell (w.drewN q) ⟨A, c.who.toNat, none⟩ _ k hk
        refine ⟨h.row.of_block (u R h.RA), ?_, h.rg.of_block (u G (fun e => h.AG e.symm)), hok, h.n1, h.n8, h.rd, h.lv.imp id (fun ⟨L, x1, x2, x3, x4, x5, x6⟩ => ⟨L, x1, x2.of_block (u L x5), x3, x4, x5, x6⟩), h.hR, h.hA, h.hG, h.RA, h.RG, h.AG, h.tk, h.le⟩
        have := (RowI.of_block (w' := w.drewN q) h.ra rfl).set c.who.toNat hi m
        rw [hm] at this ⊢
        exact this, Un.trans (Un.of_below (below_drewN (Below.refl _ _) q)) (Un.set (.inr (.inl rfl)) _ _)⟩)
      clear h hE hB hok
      obtain ⟨ck, cw, cc⟩ := c
      dsimp only at *
      obtain ⟨i, rfl⟩ : ∃ i : Nat, cw = (i : Int) := ⟨cw.toNat, by omega⟩
      rw [Int.toNat_natCast] at *
      generalize b.wants.getD i 0 = x at *
      have hlen := hid hi
      clear hi
      generalize b.n = n at *
      have hin : (i : Int) < (n : Int) := by omega
      have hi0 : (0 : Int) ≤ (i : Int) := by omega
      have hsub : IntKind.i64.wrap ((n : Int) - 1) = (n : Int) - 1 := by rw [IntKind.wrap_i64]; omega
      have body : ∀ (m : Int), (if x < cc then cc else x) = m → m = max x cc → Calls Try.prog 28 #[.pointer (some ⟨R, oo, none⟩), .int .i64 (i : Int), .int .i64 cc] w fun e w' => CoP B R oo XX A G N vl b ⟨ck, (i : Int), cc⟩ w e w' := by
        intro m hm hm2
        have P1 := hid (fun q => P0.out q m hm2)
        clear P0 hm2
        go_enter Try.func28, Try.ntmps28
        go_wp2_with (first | (go_at_call_of 26 (Value.int .i64 (i : Int)); refine K1.mono ?_; rintro e w' ⟨rfl, rfl⟩) | fail)
        refine K2.mono ?_
        rintro e wx ⟨rfl, hx⟩
        have hy := hx.symm
        clear hx K1 K2
        subst hy
        go_wp2
        go_region
        go_wp2
        go_ret
        exact P1.out 1
      refine body _ rfl ?_
      split <;> omega
    · have K2 := from_f h2 w
      rw [if_pos (by omega)] at hE
      have P0 := hid (coP_no h hE (by decide))
      clear h hE h2
      obtain ⟨ck, cw, cc⟩ := c
      dsimp only at *
      generalize b.n = n at *
      have hsub : IntKind.i64.wrap ((n : Int) - 1) = (n : Int) - 1 := by rw [IntKind.wrap_i64]; omega
      go_enter Try.func28, Try.ntmps28
      go_wp2_with (first | (go_at_call_of 26 (Value.int .i64 cw); refine K1.mono ?_; rintro e w' ⟨rfl, rfl⟩) | fail)
      refine K2.mono ?_
      rintro e wx ⟨rfl, hx⟩
      have hy := hx.symm
      clear hx K1 K2
      subst hy
      go_wp2
      go_ret
      exact P0.out
  · have K1 := from_f h1 w
    rw [if_pos (by omega)] at hE
    have P0 := hid (coP_no h hE (by decide))
    clear h hE h1
    obtain ⟨ck, cw, cc⟩ := c
    dsimp only at *
    generalize b.n = n at *
    have hsub : IntKind.i64.wrap ((n : Int) - 1) = (n : Int) - 1 := by rw [IntKind.wrap_i64]; omega
    go_enter Try.func28, Try.ntmps28
    go_wp2_with fail
    refine K1.mono ?_
    rintro e wx ⟨rfl, hx⟩
    have hy := hx.symm
    clear hx K1
    subst hy
    go_wp2
    go_ret
    exact P0.out
end Go.Proofs.Ytiolkeghgodggaj.Bo
