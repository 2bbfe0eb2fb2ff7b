/-
  seal: Post.
-/
import Derived.Test.YtiolkeghgodggaiS4
import Derived.Test.YtiolkeghgodggaiXr
import Derived.Deep.RegionHeld3
import Derived.Deep.RegionWith
namespace Go.Proofs.Ytiolkeghgodggai.Se
open Go.RowKit Go.Shelf Go.Sort Go.Lib

/-- What a move leaves. -/
def DoP (R oo : Nat) (XX : Win) (vo vm : Value) (o : Plain.Off) (x : Plain.Le) (n : Nat) (w : World) (e : Ending) (w' : World) : Prop :=
  ∃ r vo' vm' P, e = .returned (aggD r) ∧ r.d = Plain.leT o x ∧ OfI R oo XX w' vo' vm' P (Plain.leS o x) (n + 1) ∧ Kp (ownS vo vm) R w w' ∧ By 0 w' r.p r.c r.d.data ∧ ∀ k, ownS vo' vm' k → ownS vo vm k ∨ w.heap.size ≤ k
theorem doP_no {R oo n E : Nat} {XX : Win} {o : Plain.Off} {x : Plain.Le} {vo vm : Value} {P : List RP} {w w' : World} (hE : Plain.leE o x = E) (h0 : E ≠ 0) (h : OfI R oo XX w vo vm P o n) (g : Below w.heap.size w w') :
    DoP R oo XX vo vm o x n w (.returned (aggD ⟨⟨E, 0, 0, []⟩, none, 0⟩)) w' := by
  have hS : Plain.leS o x = o := by unfold Plain.leS; rw [hE, if_pos h0]
  have hT : Plain.leT o x = ⟨E, 0, 0, []⟩ := by unfold Plain.leT; rw [hE, if_pos h0]
  exact ⟨_, vo, vm, P, rfl, hT.symm, by rw [hS]; exact (h.grow g).mono (Nat.le_succ _), Kp.of_below g, By.nil _ _, fun k hk => .inl hk⟩
/-- A letter more. -/
theorem OfI.snoc {R oo n : Nat} {XX : Win} {W : World} {vo vm : Value} {P : List RP} {o : Plain.Off} (h : OfI R oo XX W vo vm P o n) (hgo : Plain.Good o) (hb : P.length ≤ 100000) (y : RP) (hy : By 0 W y.p y.c y.y.data) :
    ∃ p c U, (Builtin.append_ #[61, 61] 61 #[vo, .slice (some ⟨W.heap.size, 0, none⟩) 1 1]).run Try.prog (W.alloc (.cells #[.int .i64 y.y.frm, .int .i64 y.y.to, .slice y.p y.y.data.length y.c] 83)) = .ok (.slice p (P.length + 1) c) U ∧
      U.cell? ⟨R, oo, none⟩ = some vo ∧ U.frozen? ⟨R, oo, none⟩ = false ∧ OfI R oo XX (U.setCell ⟨R, oo, none⟩ (.slice p (P.length + 1) c)) (.slice p (P.length + 1) c) vm (P ++ [y]) { o with posted := o.posted ++ [y.y] } n ∧
      Kp (ownS vo vm) R W (U.setCell ⟨R, oo, none⟩ (.slice p (P.length + 1) c)) ∧ (∀ k, ownS (.slice p (P.length + 1) c) vm k → ownS vo vm k ∨ W.heap.size ≤ k) := by
  obtain ⟨j0, ji, jz0, jz1, jz2⟩ := info_parts Try.infoPo
  have bel : Below W.heap.size W (W.alloc (.cells #[.int .i64 y.y.frm, .int .i64 y.y.to, .slice y.p y.y.data.length y.c] 83)) := (Below.refl _ _).alloc (Nat.le_refl _) _
  have k1 := h.grow bel
  have hq : encP.Holds (W.alloc (.cells #[.int .i64 y.y.frm, .int .i64 y.y.to, .slice y.p y.y.data.length y.c] 83)) (some ⟨W.heap.size, 0, none⟩) [y] := encP.one_holds W y 83
  obtain ⟨v', U, h1, h2, h3, h4⟩ := Enc.appW (E := encP) (m := 1) (c := 1) (q := [y]) Try.underlying61 ji jz0 jz1 jz2 rfl k1.ow hq rfl (fun e => by cases e) (by omega) (by omega) (Nat.zero_le _)
  have hlen : (P ++ [y]).length = P.length + 1 := by simp
  obtain ⟨p, c, rfl, _⟩ := encP.owns h2 hlen
  have rowU : U.rowIs R XX.t XX.n (XX.f oo 2 (offF vo vm)) := grow_bx k1.row k1.ow h.nl h3
  have kf1 : Kp (ownS vo vm) R W U := (Kp.of_below bel).trans (Kp.grown (fun g hg => .inl hg) h3)
  have kf2 : Kp (ownS vo vm) R W (U.setCell ⟨R, oo, none⟩ (.slice p (P.length + 1) c)) := kf1.trans (Kp.setR _ _)
  have hnv : ∀ k, vm = .map (some k) → vo.ownBlock ≠ some k := fun k e x => by
    obtain ⟨es, ck, hm⟩ := h.mp.is_map e
    rcases h.ow.2 with ⟨rfl, _⟩ | ⟨g, cap, cur, rfl, _, hg, _⟩
    · simp [Value.ownBlock] at x
    · simp only [Value.ownBlock, Option.some.injEq] at x
      subst x
      rw [hg] at hm; cases hm
  refine ⟨p, c, U, h1, Win.cell rowU h.le (i := 0) (by omega), rowU.frozen oo, ⟨Win.set rowU 0 (by omega) _ fun j hj => ?_, ?_, fun r hr => ?_, ?_, ?_, h.nl, h.nb, h.le⟩, kf2, fun k hk => ?_⟩
  · unfold offF
    by_cases e : j = 0
    · rw [if_pos e, if_pos e]
    · rw [if_neg e, if_neg e, if_neg e]
  · rw [hlen]
    exact ownsRow_setCell_other h2 (row_owns_ne rowU h2 h.nl) _
  · rcases List.mem_append.1 hr with m | m
    · exact (h.bs r m).keep (h.kb kf2)
    · have e : r = y := by simpa using m
      subst e
      exact hy.keep (h.kb kf2)
  · show o.posted ++ [y.y] = _
    rw [h.po, List.map_append]; rfl
  · refine MapV.congr (h.mp.of_block fun M e => ?_) (fun f t => (Plain.next_post hgo y.y f t).symm)
    rw [Below.heap_setCell U ⟨R, oo, none⟩ _ M (fun e2 => h.nown (by have e3 : M = R := e2; rw [← e3]; exact .inr e)), h3.block M (Nat.lt_of_lt_of_le (h.mp.lt e) bel.size) (fun e2 => hnv M e e2.symm), bel.block M (h.mp.lt e)]
  · rcases hk with x | x
    · rcases h4 k x with y | y
      · exact .inl (.inl y)
      · exact .inr (by rw [y]; simp)
    · exact .inl (.inr x)
abbrev zeroD : Obj := .cells #[.int .i64 0, .int .i64 0, .int .i64 0, .slice none 0 0] 44
theorem party_t {n : Int} (h : 0 ≤ n ∧ n ≤ 8) (w : World) : Calls Try.prog 29 #[.int .i64 n] w fun e w' => e = .returned (.bool true) ∧ w' = w := by
  have := party_c n w
  rw [show partyB n = true from decide_eq_true h] at this
  exact this
theorem party_f {n : Int} (h : n < 0 ∨ 8 < n) (w : World) : Calls Try.prog 29 #[.int .i64 n] w fun e w' => e = .returned (.bool false) ∧ w' = w := by
  have := party_c n w
  rw [show partyB n = false from decide_eq_false (by omega)] at this
  exact this

set_option maxHeartbeats 4000000 in
set_option maxRecDepth 100000 in
/-- Post, of a letter that goes. -/
theorem post_yes (R oo n : Nat) (XX : Win) (vo vm : Value) (P : List RP) (o : Plain.Off) (hgo : Plain.Good o) (hb : P.length ≤ 100000) (x : Plain.Le) (p : Option Addr) (c C : Nat) (hk : x.kind = 1) (hf : 0 ≤ x.frm ∧ x.frm ≤ 8) (ht : 0 ≤ x.to ∧ x.to ≤ 8) (hlen : ¬ 256 < x.data.length)
    (w : World) (h : OfI R oo XX w vo vm P o n) (hy : By C w p c x.data) :
    Calls Try.prog 24 #[.pointer (some ⟨R, oo, none⟩), .int .i64 x.frm, .int .i64 x.to, .slice p x.data.length c] w fun e w' => DoP R oo XX vo vm o x n w e w' := by
  have hE : Plain.leE o x = 0 := by
    unfold Plain.leE
    rw [if_neg (by omega), if_neg (by omega), if_pos hk, if_neg hlen]
  have HS := hid (show Plain.leS o x = { o with posted := o.posted ++ [⟨x.frm, x.to, x.data⟩] } by unfold Plain.leS; rw [hE, if_neg (by decide), if_pos hk])
  have HT := hid (show Plain.leT o x = ⟨0, P.length, x.data.length, []⟩ by unfold Plain.leT; rw [hE, if_neg (by decide), if_pos hk, h.len])
  obtain ⟨WA, hWA⟩ : ∃ WA, WA = w.alloc zeroD := ⟨_, rfl⟩
  have rG := hid (show WA.rowIs w.heap.size 44 4 (odF ⟨⟨0, 0, 0, []⟩, none, 0⟩) by rw [hWA]; exact rowD_new w ⟨⟨0, 0, 0, []⟩, none, 0⟩)
  have BA := hid (show Below w.heap.size w WA by rw [hWA]; exact (Below.refl _ _).alloc (Nat.le_refl _) _)
  have HA := hid (h.grow BA.out)
  have r0 := HA.out.c0
  obtain ⟨po, co, evo, hff⟩ := h.form
  clear hff
  rw [evo] at r0
  have HEV := hid evo
  have HOLD := hid (fun (k : Nat) (hk : ownS vo vm k) => h.own_lt hk)
  have HG := hid (show w.heap.size ≠ R from fun e => by have := h.row.lt; omega)
  have hRn : ¬ R = w.heap.size := fun e => HG.out e.symm
  have hRm : ¬ w.heap.size = R := HG.out
  have KT := fun W => party_t ht W
  have KF := fun W => party_t hf W
  have HGO := hid hgo
  have HB := hid hb
  have KC := clone_c C 0 p x.data.length c x.data rfl (by omega) WA.drew ((hy.grow BA.out).drewN 1)
  have hcm : x.data.length ≤ 9223372036854775807 := Nat.le_trans hy.le hy.cm
  clear hE hy evo h hgo hb
  obtain ⟨m, hm⟩ : ∃ m, m = x.data.length := ⟨_, rfl⟩
  obtain ⟨np, hnp⟩ : ∃ np, np = P.length := ⟨_, rfl⟩
  have HM := hid hm
  have HNP := hid hnp
  rw [← hm] at KC hcm HT hlen ⊢
  rw [← hnp] at HT r0 HEV
  clear hm hnp
  obtain ⟨xf, hxf⟩ : ∃ xf, xf = x.frm := ⟨_, rfl⟩
  obtain ⟨xt, hxt⟩ : ∃ xt, xt = x.to := ⟨_, rfl⟩
  rw [← hxf] at KF hf ⊢
  rw [← hxt] at KT ht ⊢
  have HXF := hid hxf
  have HXT := hid hxt
  clear hxf hxt
  have hmz : ¬ (256 : Int) < (m : Int) := by omega
  rw [hWA] at r0
  go_enter Try.func24, Try.ntmps24
  go_wp2_with (first | (go_at_call_of 29 (Value.int .i64 xf); refine (KF _).mono ?_; rintro e w' ⟨rfl, rfl⟩) | (go_at_call_of 29 (Value.int .i64 xt); refine (KT _).mono ?_; rintro e w' ⟨rfl, rfl⟩) | fail)
  rw [← hWA] at r0 ⊢
  clear hWA KF KT
  have mixed : Try.prog.follows .mixedOrders = true := by kernel_rfl
  have TS : (fun w' : World => w'.cell? ⟨R, oo, none⟩ = some (.slice po np co)) WA.drew := r0
  refine AnyBut.begin (fun w' : World => w'.cell? ⟨R, oo, none⟩ = some (.slice po np co)) 14 mixed ?_
  refine AnyBut.take 0 (.pointer (some ⟨R, oo, none⟩)) rfl (by kernel_rfl) (by kernel_rfl) (by kernel_rfl) (by kernel_rfl) (fun _ _ _ h => h) TS (by rfl) (fun w' hS => ?_) ?_
  · (have q1 := hS; go_simp)
  simp only [Act.put, List.setIfInBounds_toArray, List.set_cons_zero, List.set_cons_succ]
  refine AnyBut.take 1 (.pointer (some ⟨R, oo, none⟩)) rfl (by kernel_rfl) (by kernel_rfl) (by kernel_rfl) (by kernel_rfl) (fun _ _ _ h => h) TS (by rfl) (fun w' hS => ?_) ?_
  · (have q1 := hS; go_simp)
  simp only [Act.put, List.setIfInBounds_toArray, List.set_cons_zero, List.set_cons_succ]
  refine AnyBut.take 2 (.pointer (some ⟨R, oo, none⟩)) rfl (by kernel_rfl) (by kernel_rfl) (by kernel_rfl) (by kernel_rfl) (fun _ _ _ h => h) TS (by rfl) (fun w' hS => ?_) ?_
  · (have q1 := hS; go_simp)
  simp only [Act.put, List.setIfInBounds_toArray, List.set_cons_zero, List.set_cons_succ]
  refine AnyBut.take 3 (.pointer (some ⟨R, oo, none⟩)) rfl (by kernel_rfl) (by kernel_rfl) (by kernel_rfl) (by kernel_rfl) (fun _ _ _ h => h) TS (by rfl) (fun w' hS => ?_) ?_
  · (have q1 := hS; go_simp)
  simp only [Act.put, List.setIfInBounds_toArray, List.set_cons_zero, List.set_cons_succ]
  refine AnyBut.take 4 (.slice po np co) rfl (by kernel_rfl) (by kernel_rfl) (by kernel_rfl) (by kernel_rfl) (fun _ _ _ h => h) TS (by rfl) (fun w' hS => ?_) ?_
  · (have q1 := hS; go_simp)
  simp only [Act.put, List.setIfInBounds_toArray, List.set_cons_zero, List.set_cons_succ]
  refine AnyBut.take 5 (.int .i64 xf) rfl (by kernel_rfl) (by kernel_rfl) (by kernel_rfl) (by kernel_rfl) (fun _ _ _ h => h) TS (by rfl) (fun w' hS => ?_) ?_
  · (have q1 := hS; go_simp)
  simp only [Act.put, List.setIfInBounds_toArray, List.set_cons_zero, List.set_cons_succ]
  refine AnyBut.take 6 (.int .i64 xt) rfl (by kernel_rfl) (by kernel_rfl) (by kernel_rfl) (by kernel_rfl) (fun _ _ _ h => h) TS (by rfl) (fun w' hS => ?_) ?_
  · (have q1 := hS; go_simp)
  simp only [Act.put, List.setIfInBounds_toArray, List.set_cons_zero, List.set_cons_succ]
  refine AnyBut.take 7 (.slice p m c) rfl (by kernel_rfl) (by kernel_rfl) (by kernel_rfl) (by kernel_rfl) (fun _ _ _ h => h) TS (by rfl) (fun w' hS => ?_) ?_
  · (have q1 := hS; go_simp)
  simp only [Act.put, List.setIfInBounds_toArray, List.set_cons_zero, List.set_cons_succ]
  refine AnyBut.one 8 (by kernel_rfl) rfl (by rfl) (fun K hK => ?_)
  go_simp
  refine KC.mono ?_
  rintro e W5 ⟨p', c', rfl, hby, b5⟩
  have B5 := hid b5
  have O5 := hid ((HA.out.drewN 1).grow b5)
  obtain ⟨pv, cv, U, hrun, u0, uf, oU, kU, nU⟩ := O5.out.snoc HGO.out HB.out ⟨⟨xf, xt, x.data⟩, p', c'⟩ hby
  dsimp only at hrun
  rw [← HNP.out, ← HM.out, HEV.out] at hrun
  have RUN := hid hrun
  have OU := hid oU
  have KU := hid kU
  have NU := hid nU
  have r05 := O5.out.c0
  rw [HEV.out] at r05 u0
  clear hby b5 hrun oU kU nU
  have TS2 : (fun w' : World => w'.cell? ⟨R, oo, none⟩ = some (.slice po np co)) W5 := r05
  refine hK.out _ _ (fun _ => TS2) ?_
  clear hK K KC
  refine AnyBut.take 9 (.agg #[.int .i64 xf, .int .i64 xt, .slice p' m c']) rfl (by kernel_rfl) (by kernel_rfl) (by kernel_rfl) (by kernel_rfl) (fun _ _ _ h => h) TS2 (by rfl) (fun w' hS => ?_) ?_
  · (go_simp)
  simp only [Act.put, List.setIfInBounds_toArray, List.set_cons_zero, List.set_cons_succ]
  refine AnyBut.one 10 (by kernel_rfl) rfl (by rfl) (fun K hK => ?_)
  go_simp
  have TS3 : (fun w' : World => w'.cell? ⟨R, oo, none⟩ = some (.slice po np co)) (W5.alloc (.cells #[.int .i64 xf, .int .i64 xt, .slice p' m c'] 83)) := by
    show (W5.alloc _).cell? _ = _
    rw [World.cell?_alloc_lt _ _ _ (World.block_lt_of_cell? (w := W5) (h := r05))]
    exact r05
  refine hK.out _ _ (fun _ => TS3) ?_
  clear hK K
  refine AnyBut.one 11 (by kernel_rfl) rfl (by rfl) (fun K hK => ?_)
  refine wp_appO _ _ 61 rfl 61 rfl (.slice po np co) (.slice (some ⟨W5.heap.size, 0, none⟩) 1 1) (by simp [Act.eval]) (by simp [Act.eval]) RUN.out ?_
  have TS4 : (fun w' : World => w'.cell? ⟨R, oo, none⟩ = some (.slice po np co)) U := u0
  refine hK.out _ _ (fun _ => TS4) ?_
  clear hK K
  simp only [Act.put, List.setIfInBounds_toArray, List.set_cons_zero, List.set_cons_succ]
  refine AnyBut.one 12 (by kernel_rfl) rfl (by rfl) (fun K hK => ?_)
  go_simp
  refine hK.out _ _ (fun _ => TS4) ?_
  clear hK K
  refine AnyBut.one 13 (by kernel_rfl) rfl (by rfl) (fun K hK => ?_)
  go_simp
  refine hK.out _ _ (fun _ => TS4) ?_
  clear hK K
  refine AnyBut.one 14 (by kernel_rfl) rfl (by rfl) (fun K hK => ?_)
  go_simp
  refine hK.out _ _ (fun h => absurd rfl h) ?_
  clear hK K
  refine AnyBut.done (by kernel_rfl) ?_
  obtain ⟨W4, hW4⟩ : ∃ W4, W4 = U.setCell ⟨R, oo, none⟩ (.slice pv (np + 1) cv) := ⟨_, rfl⟩
  have ROW := hid (show W4.rowIs w.heap.size 44 4 (odF ⟨⟨0, 0, 0, []⟩, none, 0⟩) by
    rw [hW4, HNP.out]
    refine KU.out.rowIs (rG.out.of_block (B5.out.block _ rG.out.lt)) (fun e => ?_) HG.out
    have := HOLD.out _ e
    omega)
  rw [← hW4]
  rw [← HNP.out, ← hW4] at OU KU
  rw [← HNP.out] at NU
  clear hW4 u0 uf RUN TS TS2 TS3 TS4 r0 r05
  have y0 := ROW.out.cell (i := 0) (by omega)
  have y1 := ROW.out.cell (i := 1) (by omega)
  have y2 := ROW.out.cell (i := 2) (by omega)
  have y3 := ROW.out.cell (i := 3) (by omega)
  have z0 := ROW.out.frozen 0
  have z1 := ROW.out.frozen 1
  have z2 := ROW.out.frozen 2
  have z3 := ROW.out.frozen 3
  go_wp2
  (try simp only [Exit.inBlock, Exit.then])
  obtain ⟨W6, hW6⟩ : ∃ W6, W6 = (((W4.setCell ⟨w.heap.size, 0, none⟩ (.int .i64 0)).setCell ⟨w.heap.size, 1, none⟩ (.int .i64 np)).setCell ⟨w.heap.size, 2, none⟩ (.int .i64 m)).setCell ⟨w.heap.size, 3, none⟩ (.slice none 0 0) := ⟨_, rfl⟩
  rw [← hW6]
  have R6 : W6.rowIs w.heap.size 44 4 (odF ⟨⟨0, np, m, []⟩, none, 0⟩) := by rw [hW6]; exact putD_row ROW.out ⟨⟨0, np, m, []⟩, none, 0⟩
  have e6 : Only1 w.heap.size W4 W6 := by rw [hW6]; exact putD_only W4 w.heap.size 0 ⟨⟨0, np, m, []⟩, none, 0⟩
  clear hW6
  have KW : Kp (ownS vo vm) R w W4 := ((Kp.of_below (BA.out.trans ((below_drewN (Below.refl _ _) 1).trans (B5.out.mono BA.out.size)))).trans KU.out)
  refine bodyPost_D rfl w.heap.size ⟨⟨0, np, m, []⟩, none, 0⟩ rfl R6 rfl ⟨_, _, vm, P ++ [⟨⟨xf, xt, x.data⟩, p', c'⟩], rfl, HT.out.symm, ?_, e6.kp KW (Nat.le_refl _), By.nil _ _, fun k hk => (NU.out k hk).imp id (fun y => Nat.le_trans (Nat.le_trans BA.out.size B5.out.size) y)⟩
  rw [HS.out, ← HXF.out, ← HXT.out]
  exact (e6.off OU.out ROW.out (by decide) (by decide) HG.out).mono (Nat.le_succ _)

set_option maxHeartbeats 4000000 in
set_option maxRecDepth 100000 in
theorem post_from (R oo n : Nat) (XX : Win) (vo vm : Value) (P : List RP) (o : Plain.Off) (x : Plain.Le) (p : Option Addr) (c C : Nat) (hk : x.kind = 1) (hf : x.frm < 0 ∨ 8 < x.frm)
    (w : World) (h : OfI R oo XX w vo vm P o n) (hy : By C w p c x.data) :
    Calls Try.prog 24 #[.pointer (some ⟨R, oo, none⟩), .int .i64 x.frm, .int .i64 x.to, .slice p x.data.length c] w fun e w' => DoP R oo XX vo vm o x n w e w' := by
  have P0 := hid (fun w' gg => doP_no (w := w) (w' := w') (x := x) (E := 2) (by unfold Plain.leE; rw [if_neg (by omega), if_pos (by omega)]) (by decide) h gg)
  obtain ⟨WA, hWA⟩ : ∃ WA, WA = w.alloc zeroD := ⟨_, rfl⟩
  have rG := hid (show WA.rowIs w.heap.size 44 4 (odF ⟨⟨0, 0, 0, []⟩, none, 0⟩) by rw [hWA]; exact rowD_new w ⟨⟨0, 0, 0, []⟩, none, 0⟩)
  have BA := hid (show Below w.heap.size w WA by rw [hWA]; exact (Below.refl _ _).alloc (Nat.le_refl _) _)
  have K := refused_c 2 WA
  have hcm : x.data.length ≤ 9223372036854775807 := Nat.le_trans hy.le hy.cm
  have KF := fun W => party_f hf W
  clear h hy
  generalize x.data.length = m at *
  generalize x.frm = xf at *
  generalize x.to = xt at *
  go_enter Try.func24, Try.ntmps24
  go_wp2_with (first | (go_at_call_of 29 (Value.int .i64 xf); refine (KF _).mono ?_; rintro e w' ⟨rfl, rfl⟩) | fail)
  rw [← hWA]
  clear hWA
  refine K.mono ?_
  rintro e W1 ⟨rfl, b1⟩
  have R1 := hid (rG.out.of_block (b1.block _ rG.out.lt))
  have B1 := hid (BA.out.trans (b1.mono BA.out.size))
  clear K b1 rG BA
  have y0 := R1.out.cell (i := 0) (by omega)
  have y1 := R1.out.cell (i := 1) (by omega)
  have y2 := R1.out.cell (i := 2) (by omega)
  have y3 := R1.out.cell (i := 3) (by omega)
  have z0 := R1.out.frozen 0
  have z1 := R1.out.frozen 1
  have z2 := R1.out.frozen 2
  have z3 := R1.out.frozen 3
  go_wp2
  (try simp only [Exit.inBlock, Exit.then])
  obtain ⟨W6, hW6⟩ : ∃ W6, W6 = (((W1.setCell ⟨w.heap.size, 0, none⟩ (.int .i64 2)).setCell ⟨w.heap.size, 1, none⟩ (.int .i64 0)).setCell ⟨w.heap.size, 2, none⟩ (.int .i64 0)).setCell ⟨w.heap.size, 3, none⟩ (.slice none 0 0) := ⟨_, rfl⟩
  rw [← hW6]
  have R6 : W6.rowIs (w.heap.size) 44 4 (odF ⟨⟨2, 0, 0, []⟩, none, 0⟩) := by rw [hW6]; exact putD_row R1.out ⟨⟨2, 0, 0, []⟩, none, 0⟩
  have B6 : Below w.heap.size w W6 := by rw [hW6]; exact putD_below B1.out (by omega) 0 ⟨⟨2, 0, 0, []⟩, none, 0⟩
  clear hW6
  exact bodyPost_D rfl (w.heap.size) ⟨⟨2, 0, 0, []⟩, none, 0⟩ rfl R6 rfl (P0.out _ B6)

set_option maxHeartbeats 4000000 in
set_option maxRecDepth 100000 in
theorem post_to (R oo n : Nat) (XX : Win) (vo vm : Value) (P : List RP) (o : Plain.Off) (x : Plain.Le) (p : Option Addr) (c C : Nat) (hk : x.kind = 1) (hf : 0 ≤ x.frm ∧ x.frm ≤ 8) (ht : x.to < 0 ∨ 8 < x.to)
    (w : World) (h : OfI R oo XX w vo vm P o n) (hy : By C w p c x.data) :
    Calls Try.prog 24 #[.pointer (some ⟨R, oo, none⟩), .int .i64 x.frm, .int .i64 x.to, .slice p x.data.length c] w fun e w' => DoP R oo XX vo vm o x n w e w' := by
  have P0 := hid (fun w' gg => doP_no (w := w) (w' := w') (x := x) (E := 2) (by unfold Plain.leE; rw [if_neg (by omega), if_pos (by omega)]) (by decide) h gg)
  obtain ⟨WA, hWA⟩ : ∃ WA, WA = w.alloc zeroD := ⟨_, rfl⟩
  have rG := hid (show WA.rowIs w.heap.size 44 4 (odF ⟨⟨0, 0, 0, []⟩, none, 0⟩) by rw [hWA]; exact rowD_new w ⟨⟨0, 0, 0, []⟩, none, 0⟩)
  have BA := hid (show Below w.heap.size w WA by rw [hWA]; exact (Below.refl _ _).alloc (Nat.le_refl _) _)
  have K := refused_c 2 WA
  have hcm : x.data.length ≤ 9223372036854775807 := Nat.le_trans hy.le hy.cm
  have KF := fun W => party_t hf W
  have KT := fun W => party_f ht W
  clear h hy
  generalize x.data.length = m at *
  generalize x.frm = xf at *
  generalize x.to = xt at *
  go_enter Try.func24, Try.ntmps24
  go_wp2_with (first | (go_at_call_of 29 (Value.int .i64 xf); refine (KF _).mono ?_; rintro e w' ⟨rfl, rfl⟩) | (go_at_call_of 29 (Value.int .i64 xt); refine (KT _).mono ?_; rintro e w' ⟨rfl, rfl⟩) | fail)
  rw [← hWA]
  clear hWA
  refine K.mono ?_
  rintro e W1 ⟨rfl, b1⟩
  have R1 := hid (rG.out.of_block (b1.block _ rG.out.lt))
  have B1 := hid (BA.out.trans (b1.mono BA.out.size))
  clear K b1 rG BA
  have y0 := R1.out.cell (i := 0) (by omega)
  have y1 := R1.out.cell (i := 1) (by omega)
  have y2 := R1.out.cell (i := 2) (by omega)
  have y3 := R1.out.cell (i := 3) (by omega)
  have z0 := R1.out.frozen 0
  have z1 := R1.out.frozen 1
  have z2 := R1.out.frozen 2
  have z3 := R1.out.frozen 3
  go_wp2
  (try simp only [Exit.inBlock, Exit.then])
  obtain ⟨W6, hW6⟩ : ∃ W6, W6 = (((W1.setCell ⟨w.heap.size, 0, none⟩ (.int .i64 2)).setCell ⟨w.heap.size, 1, none⟩ (.int .i64 0)).setCell ⟨w.heap.size, 2, none⟩ (.int .i64 0)).setCell ⟨w.heap.size, 3, none⟩ (.slice none 0 0) := ⟨_, rfl⟩
  rw [← hW6]
  have R6 : W6.rowIs (w.heap.size) 44 4 (odF ⟨⟨2, 0, 0, []⟩, none, 0⟩) := by rw [hW6]; exact putD_row R1.out ⟨⟨2, 0, 0, []⟩, none, 0⟩
  have B6 : Below w.heap.size w W6 := by rw [hW6]; exact putD_below B1.out (by omega) 0 ⟨⟨2, 0, 0, []⟩, none, 0⟩
  clear hW6
  exact bodyPost_D rfl (w.heap.size) ⟨⟨2, 0, 0, []⟩, none, 0⟩ rfl R6 rfl (P0.out _ B6)

set_option maxHeartbeats 4000000 in
set_option maxRecDepth 100000 in
theorem post_size (R oo n : Nat) (XX : Win) (vo vm : Value) (P : List RP) (o : Plain.Off) (x : Plain.Le) (p : Option Addr) (c C : Nat) (hk : x.kind = 1) (hf : 0 ≤ x.frm ∧ x.frm ≤ 8) (ht : 0 ≤ x.to ∧ x.to ≤ 8) (hlen : 256 < x.data.length)
    (w : World) (h : OfI R oo XX w vo vm P o n) (hy : By C w p c x.data) :
    Calls Try.prog 24 #[.pointer (some ⟨R, oo, none⟩), .int .i64 x.frm, .int .i64 x.to, .slice p x.data.length c] w fun e w' => DoP R oo XX vo vm o x n w e w' := by
  have P0 := hid (fun w' gg => doP_no (w := w) (w' := w') (x := x) (E := 1) (by unfold Plain.leE; rw [if_neg (by omega), if_neg (by omega), if_pos hk, if_pos hlen]) (by decide) h gg)
  obtain ⟨WA, hWA⟩ : ∃ WA, WA = w.alloc zeroD := ⟨_, rfl⟩
  have rG := hid (show WA.rowIs w.heap.size 44 4 (odF ⟨⟨0, 0, 0, []⟩, none, 0⟩) by rw [hWA]; exact rowD_new w ⟨⟨0, 0, 0, []⟩, none, 0⟩)
  have BA := hid (show Below w.heap.size w WA by rw [hWA]; exact (Below.refl _ _).alloc (Nat.le_refl _) _)
  have K := refused_c 1 WA
  have hcm : x.data.length ≤ 9223372036854775807 := Nat.le_trans hy.le hy.cm
  have KF := fun W => party_t hf W
  have KT := fun W => party_t ht W
  have hz : (256 : Int) < (x.data.length : Int) := by omega
  clear h hy
  generalize x.data.length = m at *
  generalize x.frm = xf at *
  generalize x.to = xt at *
  go_enter Try.func24, Try.ntmps24
  go_wp2_with (first | (go_at_call_of 29 (Value.int .i64 xf); refine (KF _).mono ?_; rintro e w' ⟨rfl, rfl⟩) | (go_at_call_of 29 (Value.int .i64 xt); refine (KT _).mono ?_; rintro e w' ⟨rfl, rfl⟩) | fail)
  rw [← hWA]
  clear hWA
  refine K.mono ?_
  rintro e W1 ⟨rfl, b1⟩
  have R1 := hid (rG.out.of_block (b1.block _ rG.out.lt))
  have B1 := hid (BA.out.trans (b1.mono BA.out.size))
  clear K b1 rG BA
  have y0 := R1.out.cell (i := 0) (by omega)
  have y1 := R1.out.cell (i := 1) (by omega)
  have y2 := R1.out.cell (i := 2) (by omega)
  have y3 := R1.out.cell (i := 3) (by omega)
  have z0 := R1.out.frozen 0
  have z1 := R1.out.frozen 1
  have z2 := R1.out.frozen 2
  have z3 := R1.out.frozen 3
  go_wp2
  (try simp only [Exit.inBlock, Exit.then])
  obtain ⟨W6, hW6⟩ : ∃ W6, W6 = (((W1.setCell ⟨w.heap.size, 0, none⟩ (.int .i64 1)).setCell ⟨w.heap.size, 1, none⟩ (.int .i64 0)).setCell ⟨w.heap.size, 2, none⟩ (.int .i64 0)).setCell ⟨w.heap.size, 3, none⟩ (.slice none 0 0) := ⟨_, rfl⟩
  rw [← hW6]
  have R6 : W6.rowIs (w.heap.size) 44 4 (odF ⟨⟨1, 0, 0, []⟩, none, 0⟩) := by rw [hW6]; exact putD_row R1.out ⟨⟨1, 0, 0, []⟩, none, 0⟩
  have B6 : Below w.heap.size w W6 := by rw [hW6]; exact putD_below B1.out (by omega) 0 ⟨⟨1, 0, 0, []⟩, none, 0⟩
  clear hW6
  exact bodyPost_D rfl (w.heap.size) ⟨⟨1, 0, 0, []⟩, none, 0⟩ rfl R6 rfl (P0.out _ B6)

/-- Post, whatever it is. -/
theorem post_c (R oo n : Nat) (XX : Win) (vo vm : Value) (P : List RP) (o : Plain.Off) (hgo : Plain.Good o) (hb : P.length ≤ 100000) (x : Plain.Le) (p : Option Addr) (c C : Nat) (hk : x.kind = 1)
    (w : World) (h : OfI R oo XX w vo vm P o n) (hy : By C w p c x.data) :
    Calls Try.prog 24 #[.pointer (some ⟨R, oo, none⟩), .int .i64 x.frm, .int .i64 x.to, .slice p x.data.length c] w fun e w' => DoP R oo XX vo vm o x n w e w' := by
  by_cases hf : x.frm < 0 ∨ 8 < x.frm
  · exact post_from R oo n XX vo vm P o x p c C hk hf w h hy
  by_cases ht : x.to < 0 ∨ 8 < x.to
  · exact post_to R oo n XX vo vm P o x p c C hk (by omega) ht w h hy
  by_cases hlen : 256 < x.data.length
  · exact post_size R oo n XX vo vm P o x p c C hk (by omega) (by omega) hlen w h hy
  · exact post_yes R oo n XX vo vm P o hgo hb x p c C hk (by omega) (by omega) hlen w h hy
end Go.Proofs.Ytiolkeghgodggai.Se
