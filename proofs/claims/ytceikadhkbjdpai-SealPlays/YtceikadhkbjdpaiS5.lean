/-
  seal: post.
-/
import Derived.Test.YtceikadhkbjdpaiS4
namespace Go.Proofs.Ytceikadhkbjdpai
open Go.RowKit Go.Shelf Go.Sort Go.Lib

/-- What a move leaves. -/
def DoP (B R M : Nat) (o : Plain.Off) (x : Plain.Le) (n : Nat) (w : World) (e : Ending) (w' : World) : Prop :=
  ∃ r vo P, e = .returned (aggD r) ∧ r.d = Plain.leT o x ∧ OfI B R M w' vo P (Plain.leS o x) (n + 1) ∧ Kf B R M w w' ∧ By B w' r.p r.c r.d.data
theorem doP_no {B R M n E : Nat} {o : Plain.Off} {x : Plain.Le} {vo : Value} {P : List RP} {w w' : World} (hE : Plain.leE o x = E) (h0 : E ≠ 0) (h : OfI B R M w vo P o n) (g : Below w.heap.size w w') :
    DoP B R M o x n w (.returned (aggD ⟨⟨E, 0, 0, []⟩, none, 0⟩)) w' := by
  have hS : Plain.leS o x = o := by unfold Plain.leS; rw [hE, if_pos h0]
  have hT : Plain.leT o x = ⟨E, 0, 0, []⟩ := by unfold Plain.leT; rw [hE, if_pos h0]
  exact ⟨_, vo, P, rfl, hT.symm, by rw [hS]; exact (h.grow g).mono (Nat.le_succ _), Kf.of_below g, By.nil _ _⟩
/-- A letter more. -/
theorem OfI.snoc {B R M n : Nat} {W : World} {vo : Value} {P : List RP} {o : Plain.Off} (h : OfI B R M W vo P o n) (hgo : Plain.Good o) (hb : P.length ≤ 1000) (y : RP) (hy : By B W y.p y.c y.y.data) :
    ∃ p c U, (Builtin.append_ #[62, 62] 62 #[vo, .slice (some ⟨W.heap.size, 0, none⟩) 1 1]).run Try.prog (W.alloc (.cells #[.int .i64 y.y.frm, .int .i64 y.y.to, .slice y.p y.y.data.length y.c] 79)).drew = .ok (.slice p (P.length + 1) c) U ∧
      U.cell? ⟨R, 0, none⟩ = some vo ∧ U.frozen? ⟨R, 0, none⟩ = false ∧ OfI B R M (U.setCell ⟨R, 0, none⟩ (.slice p (P.length + 1) c)) (.slice p (P.length + 1) c) (P ++ [y]) { o with posted := o.posted ++ [y.y] } n ∧
      Kf B R M W (U.setCell ⟨R, 0, none⟩ (.slice p (P.length + 1) c)) ∧ (∀ k, k < W.heap.size → k ≠ R → vo.ownBlock ≠ some k → (U.setCell ⟨R, 0, none⟩ (.slice p (P.length + 1) c)).heap[k]? = W.heap[k]?) := by
  obtain ⟨j0, ji, jz0, jz1, jz2⟩ := info_parts Try.infoPo
  have bel : Below W.heap.size W (W.alloc (.cells #[.int .i64 y.y.frm, .int .i64 y.y.to, .slice y.p y.y.data.length y.c] 79)).drew := ((Below.refl _ _).alloc (Nat.le_refl _) _).drew
  have k1 := h.grow bel
  have hq : encP.Holds (W.alloc (.cells #[.int .i64 y.y.frm, .int .i64 y.y.to, .slice y.p y.y.data.length y.c] 79)).drew (some ⟨W.heap.size, 0, none⟩) [y] := (encP.one_holds W y 79).drew 1
  obtain ⟨v', U, h1, h2, h3⟩ := encP.app (m := 1) (c := 1) (q := [y]) Try.underlying62 ji jz0 jz1 jz2 rfl k1.ow hq rfl (fun e => by cases e) (by omega) (by omega) k1.hB
  have hlen : (P ++ [y]).length = P.length + 1 := by simp
  obtain ⟨p, c, rfl, _⟩ := encP.owns h2 hlen
  have rowU : U.rowIs R 64 2 (offF vo M) := grow_bx k1.row k1.ow (by decide) h3
  have hne : ∀ es ck b, W.heap[b]? = some (.map es ck) → vo.ownBlock ≠ some b := fun es ck b hb e => by
    rcases h.ow.2 with ⟨rfl, _⟩ | ⟨g, cap, cur, rfl, _, hg, _⟩
    · simp [Value.ownBlock] at e
    · simp only [Value.ownBlock, Option.some.injEq] at e
      subst e
      rw [hg] at hb; cases hb
  have kf1 : Kf B R M W U := (Kf.of_below bel).trans (Kf.grown k1.ow h3)
  have kf2 : Kf B R M W (U.setCell ⟨R, 0, none⟩ (.slice p (P.length + 1) c)) := kf1.trans (Kf.setR _ _)
  have hk : ∀ k, k < W.heap.size → k ≠ R → vo.ownBlock ≠ some k → (U.setCell ⟨R, 0, none⟩ (.slice p (P.length + 1) c)).heap[k]? = W.heap[k]? := fun k hlt hR hv => by
    rw [Below.heap_setCell U ⟨R, 0, none⟩ _ k hR, h3.block k (Nat.lt_of_lt_of_le hlt bel.size) (fun e => hv e.symm), bel.block k hlt]
  refine ⟨p, c, U, h1, rowU.cell (i := 0) (by omega), rowU.frozen 0, ⟨(rowU.set 0 _).congr fun j hj => ?_, ?_, fun r hr => ?_, ?_, ?_, h.geR, h.geM⟩, kf2, hk⟩
  · unfold offF
    by_cases e : j = 0
    · rw [if_pos e, if_pos e]
    · rw [if_neg e, if_neg e, if_neg e]
  · rw [hlen]
    exact ownsRow_setCell_other h2 (row_owns_ne rowU h2 (by decide)) _
  · rcases List.mem_append.1 hr with m | m
    · exact (h.bs r m).keep (h.kb kf2)
    · have e : r = y := by simpa using m
      subst e
      exact hy.keep (h.kb kf2)
  · show o.posted ++ [y.y] = _
    rw [h.po, List.map_append]; rfl
  · refine MapI.congr (h.mp.of_block ?_) (fun f t => (Plain.next_post hgo y.y f t).symm)
    obtain ⟨es, ck, hm⟩ := h.mp.is_map
    exact hk M h.mp.lt h.ne (hne es ck M hm)

set_option maxHeartbeats 4000000 in
set_option maxRecDepth 100000 in
theorem post_c (B R M n : Nat) (vo : Value) (P : List RP) (o : Plain.Off) (hgo : Plain.Good o) (hb : P.length ≤ 1000) (x : Plain.Le) (p : Option Addr) (c : Nat) (hk : x.kind = 1) (hE : Plain.leE o x = if 256 < x.data.length then 1 else 0)
    (w : World) (h : OfI B R M w vo P o n) (hy : By B w p c x.data) :
    Calls Try.prog 27 #[.pointer (some ⟨R, 0, none⟩), .agg #[.int .i64 x.frm, .int .i64 x.to, .slice p x.data.length c]] w fun e w' => DoP B R M o x n w e w' := by
  have hcm : x.data.length ≤ 9223372036854775807 := Nat.le_trans hy.le hy.cm
  obtain ⟨WA, hWA⟩ : ∃ WA, WA = (w.alloc (.cells #[.int .i64 x.frm, .int .i64 x.to, .slice p x.data.length c] 79)).alloc (.cells #[.int .i64 0, .int .i64 0, .int .i64 0, .slice none 0 0] 44) := ⟨_, rfl⟩
  have rG : Hid (WA.rowIs (w.heap.size + 1) 44 4 (odF ⟨⟨0, 0, 0, []⟩, none, 0⟩)) := hid (by
    have := rowD_new (w.alloc (.cells #[.int .i64 x.frm, .int .i64 x.to, .slice p x.data.length c] 79)) ⟨⟨0, 0, 0, []⟩, none, 0⟩
    rw [hWA]
    simpa using this)
  have BA := hid (show Below w.heap.size w WA by rw [hWA]; exact ((Below.refl _ _).alloc (Nat.le_refl _) _).alloc (by simp) _)
  by_cases hlen : 256 < x.data.length
  · have P0 := hid (fun w' gg => doP_no (w := w) (w' := w') (hE.trans (if_pos hlen)) (by decide) h gg)
    have hz : (256 : Int) < (x.data.length : Int) := by omega
    have K := refused_c 1 WA
    clear h hE hy
    generalize x.data.length = m at *
    go_enter Try.func27, Try.ntmps27
    go_wp2_with fail
    rw [← hWA]
    refine K.mono ?_
    rintro e W1 ⟨rfl, b1⟩
    have R1 := hid (rG.out.of_block (b1.block _ rG.out.lt))
    have B1 := hid (BA.out.trans (b1.mono BA.out.size))
    clear K b1 hWA rG BA
    have y0 := R1.out.cell (i := 0) (by omega)
    have y1 := R1.out.cell (i := 1) (by omega)
    have y2 := R1.out.cell (i := 2) (by omega)
    have y3 := R1.out.cell (i := 3) (by omega)
    have z0 := R1.out.frozen 0
    have z1 := R1.out.frozen 1
    have z2 := R1.out.frozen 2
    have z3 := R1.out.frozen 3
    go_wp2
    (try simp only [Exit.inBlock, Exit.then])
    obtain ⟨W6, hW6⟩ : ∃ W6, W6 = (((W1.setCell ⟨w.heap.size + 1, 0, none⟩ (.int .i64 1)).setCell ⟨w.heap.size + 1, 1, none⟩ (.int .i64 0)).setCell ⟨w.heap.size + 1, 2, none⟩ (.int .i64 0)).setCell ⟨w.heap.size + 1, 3, none⟩ (.slice none 0 0) := ⟨_, rfl⟩
    rw [← hW6]
    have R6 : W6.rowIs (w.heap.size + 1) 44 4 (odF ⟨⟨1, 0, 0, []⟩, none, 0⟩) := by rw [hW6]; exact putD_row R1.out ⟨⟨1, 0, 0, []⟩, none, 0⟩
    have B6 : Below w.heap.size w W6 := by rw [hW6]; exact putD_below B1.out (by omega) 0 ⟨⟨1, 0, 0, []⟩, none, 0⟩
    clear hW6
    exact bodyPost_D rfl (w.heap.size + 1) ⟨⟨1, 0, 0, []⟩, none, 0⟩ rfl R6 rfl (P0.out _ B6)
  · have hz : ¬ (256 : Int) < (x.data.length : Int) := by omega
    have hE0 := hE.trans (if_neg hlen)
    have HS := hid (show Plain.leS o x = { o with posted := o.posted ++ [⟨x.frm, x.to, x.data⟩] } by unfold Plain.leS; rw [hE0, if_neg (by decide), if_pos hk])
    have HT := hid (show Plain.leT o x = ⟨0, P.length, x.data.length, []⟩ by unfold Plain.leT; rw [hE0, if_neg (by decide), if_pos hk, h.len])
    have HA := h.grow BA.out
    obtain ⟨pv, cv, U, hrun, u0, uf, oU, kU, keepU⟩ := HA.snoc hgo hb ⟨⟨x.frm, x.to, x.data⟩, p, c⟩ (hy.grow BA.out)
    dsimp only at hrun oU
    obtain ⟨po, co, rfl, hff⟩ := h.form
    clear hff
    have r0 := HA.c0
    rw [hWA] at r0
    have hLB := h.ow.lt
    have ROW := hid (show (U.setCell ⟨R, 0, none⟩ (.slice pv (P.length + 1) cv)).rowIs (w.heap.size + 1) 44 4 (odF ⟨⟨0, 0, 0, []⟩, none, 0⟩) from kU.rowIs rG.out (by decide) (by have := h.row.lt; omega) (by have := h.mp.lt; omega))
    have BX := hid (show (U.setCell ⟨R, 0, none⟩ (.slice pv (P.length + 1) cv)).cell? ⟨w.heap.size, 2, none⟩ = some (.slice p x.data.length c) by
      have e := keepU w.heap.size (by have := rG.out.lt; omega) (by have := h.row.lt; omega) (fun e => by have := (hLB _ e).2; omega)
      have e2 : WA.cell? ⟨w.heap.size, 2, none⟩ = some (.slice p x.data.length c) := by
        rw [hWA, World.cell?_alloc_lt _ _ _ (by simp), World.cell?_alloc_at _ _ _ _ rfl]; rfl
      rw [← e2]
      simp only [World.cell?, e])
    have RUN := hid hrun
    have OU := hid oU
    have KU := hid (Kf.trans (Kf.of_below BA.out) kU)
    have HG := hid (show B ≤ w.heap.size + 1 ∧ w.heap.size + 1 ≠ R from ⟨by have := h.hB; omega, by have := h.row.lt; omega⟩)
    clear hrun oU kU keepU hy hE hE0 h HA
    generalize x.data.length = m at *
    generalize P.length = np at *
    go_enter Try.func27, Try.ntmps27
    go_wp2_with fail
    rw [← hWA] at r0 ⊢
    have x0 : WA.cell? ⟨w.heap.size, 0, none⟩ = some (.int .i64 x.frm) := by rw [hWA, World.cell?_alloc_lt _ _ _ (by simp), World.cell?_alloc_at _ _ _ _ rfl]; rfl
    have x1 : WA.cell? ⟨w.heap.size, 1, none⟩ = some (.int .i64 x.to) := by rw [hWA, World.cell?_alloc_lt _ _ _ (by simp), World.cell?_alloc_at _ _ _ _ rfl]; rfl
    have x2 : WA.cell? ⟨w.heap.size, 2, none⟩ = some (.slice p m c) := by rw [hWA, World.cell?_alloc_lt _ _ _ (by simp), World.cell?_alloc_at _ _ _ _ rfl]; rfl
    have r0a : (WA.alloc (.cells #[.int .i64 x.frm, .int .i64 x.to, .slice p m c] 79)).cell? ⟨R, 0, none⟩ = some (.slice po np co) := by rw [World.cell?_alloc_lt _ _ _ (World.block_lt_of_cell? (w := WA) (h := r0))]; exact r0
    clear hWA BA rG
    go_wp2
    go_region_law (refine step_appG _ _ 62 rfl 62 rfl (.slice po np co) (.slice (some ⟨WA.heap.size, 0, none⟩) 1 1) (by simp [Act.eval]) (by simp [Act.eval]) RUN.out (by rfl) ?_)
    all_goals
      obtain ⟨W4, hW4⟩ : ∃ W4, W4 = U.setCell ⟨R, 0, none⟩ (.slice pv (np + 1) cv) := ⟨_, rfl⟩
      rw [← hW4] at ROW BX OU KU ⊢
      clear hW4 r0 r0a x0 x1 x2 u0 uf RUN
      have x2 := BX.out
      have y0 := ROW.out.cell (i := 0) (by omega)
      have y1 := ROW.out.cell (i := 1) (by omega)
      have y2 := ROW.out.cell (i := 2) (by omega)
      have y3 := ROW.out.cell (i := 3) (by omega)
      have z0 := ROW.out.frozen 0
      have z1 := ROW.out.frozen 1
      have z2 := ROW.out.frozen 2
      have z3 := ROW.out.frozen 3
      go_wp2
      (try simp only [Exit.inBlock, Exit.then])
      obtain ⟨W6, hW6⟩ : ∃ W6, W6 = (((W4.setCell ⟨w.heap.size + 1, 0, none⟩ (.int .i64 0)).setCell ⟨w.heap.size + 1, 1, none⟩ (.int .i64 np)).setCell ⟨w.heap.size + 1, 2, none⟩ (.int .i64 m)).setCell ⟨w.heap.size + 1, 3, none⟩ (.slice none 0 0) := ⟨_, rfl⟩
      rw [← hW6]
      have R6 : W6.rowIs (w.heap.size + 1) 44 4 (odF ⟨⟨0, np, m, []⟩, none, 0⟩) := by rw [hW6]; exact putD_row ROW.out ⟨⟨0, np, m, []⟩, none, 0⟩
      have K6 : Kf B R M w W6 ∧ OfI B R M W6 (.slice pv (np + 1) cv) (P ++ [⟨⟨x.frm, x.to, x.data⟩, p, c⟩]) { o with posted := o.posted ++ [⟨x.frm, x.to, x.data⟩] } n := by
        have e : Only1 (w.heap.size + 1) W4 W6 := by rw [hW6]; exact putD_only W4 (w.heap.size + 1) 0 ⟨⟨0, np, m, []⟩, none, 0⟩
        exact ⟨e.kf KU.out (by omega), e.off OU.out ROW.out (by decide) (by decide) HG.out.1 HG.out.2⟩
      clear hW6
      refine bodyPost_D rfl (w.heap.size + 1) ⟨⟨0, np, m, []⟩, none, 0⟩ rfl R6 rfl ⟨_, .slice pv (np + 1) cv, P ++ [⟨⟨x.frm, x.to, x.data⟩, p, c⟩], rfl, HT.out.symm, ?_, K6.1, By.nil _ _⟩
      rw [HS.out]
      exact K6.2.mono (Nat.le_succ _)
end Go.Proofs.Ytceikadhkbjdpai
