/-
  The document's Hold: what is appended to a rack's rows.
-/
import Derived.Test.YtiolkeghgodggahJt
import Derived.Maps.AppendAt
import Derived.Deep.RegionLaw
namespace Go.Proofs.Ytiolkeghgodggah.Hd
open Go.RowKit Go.Shelf

/-- append whose run is known, at a step of a region that draws. -/
theorem step_appG {P : Program} {ops : Array Oper} {o : Oper} {a : Act} {w : World} {K : Act → World → Prop} {Q : Exit → Act → World → Prop} {E : Prop} (s x : Operand) (t : TypeId)
    (ho : o.op = .call { callee := .builtin .append, args := #[s, x], argTypes := #[t, t] }) (ty : TypeId) (hty : o.type = ty) (v1 v2 : Value) (hs : a.eval s = v1) (hx : a.eval x = v2) {v' : Value} {w' : World}
    (hr : (Builtin.append_ #[t, t] ty #[v1, v2]).run P w = .ok v' w') (hw : Region.wanted o (yielded ops a.tmps) = true) (h : K (a.put o.dst v') w') : if Region.wanted o (yielded ops a.tmps) = true then o.wp P a w K Q else E := by
  rw [if_pos hw]
  unfold Oper.wp execOp
  simp only [ho, resolve, invoke, builtin, Sem.run_bind, Sem.run_pure, Result.andThen_ok, List.map_toArray, List.map_cons, List.map_nil, hs, hx, hty, hr]
  exact h

/-- append of one number onto a row of numbers of its own. -/
theorem app_one {W : World} {B n : Nat} {v : Value} {l : List Int} (x : Int) (hn : l.length = n) (hown : W.ownsRow B 3 1 v n (ivals l)) (hb : n ≤ 1000) (hB : B ≤ W.heap.size) :
    ∃ p c U, (Builtin.append_ #[22, 22] 22 #[v, .slice (some ⟨W.heap.size, 0, none⟩) 1 1]).run Try.prog (W.alloc (.cells #[.int .i64 x] 3)).drew = .ok (.slice p (n + 1) c) U ∧
      U.ownsRow B 3 1 (.slice p (n + 1) c) (n + 1) (ivals (l ++ [x])) ∧ (W.alloc (.cells #[.int .i64 x] 3)).drew.grownBy U v.ownBlock ∧
      ((Value.slice p (n + 1) c).ownBlock = v.ownBlock ∨ (Value.slice p (n + 1) c).ownBlock = some (W.heap.size + 1)) := by
  obtain ⟨j0, ji, jz0, jz1, jz2⟩ := info_parts Try.infoInt
  have ho : (W.alloc (.cells #[.int .i64 x] 3)).drew.ownsRow B 3 1 v n (ivals l) := owns_grow hown (((Below.refl _ _).alloc (Nat.le_refl _) _).drew)
  obtain ⟨v', U, h1, h2, h3, _, h5⟩ := run_append_own_at (P := Try.prog) (W.alloc (.cells #[.int .i64 x] 3)).drew B 22 22 3 j0 (.int .i64 0) 1 8 Try.underlying22 ji jz0 jz1 jz2 rfl (by decide) v n _ ho ⟨W.heap.size, 0, none⟩ 1 1 [.int .i64 x]
    rfl (fun j u hu => by
      match j, hu with
      | 0, hu =>
        simp at hu; subst hu
        show (W.alloc _).cell? _ = _
        rw [show (⟨W.heap.size, 0, none⟩ : Addr).add 0 = ⟨W.heap.size, 0, none⟩ by simp [Addr.add], World.cell?_alloc_at _ _ _ _ rfl]; rfl) (fun u hu => by simp at hu; subst hu; rfl) (by unfold maxLen; omega) (by omega) (by show B ≤ (W.alloc _).heap.size; simp; omega)
  rw [← ivals_snoc] at h2
  have hsz : (W.alloc (.cells #[.int .i64 x] 3)).drew.heap.size = W.heap.size + 1 := by show (W.alloc _).heap.size = _; simp
  rw [hsz] at h5
  rcases h2.2 with ⟨_, h0⟩ | ⟨g, cap, cur, rfl, _⟩
  · omega
  · exact ⟨_, _, U, h1, h2, h3, h5⟩
namespace OI
variable {B R : Nat} {vc vl vc' vl' : Value} {w W : World} {o : Plain.Or} {r : Plain.Rk}
theorem grow_bx {W1 U : World} {B e s n : Nat} {v : Value} {xs : List Value} {b t m : Nat} {f : Nat → Value} (h : W1.rowIs b t m f) (ho : W1.ownsRow B e s v n xs) (hne : t ≠ e) (g : W1.grownBy U v.ownBlock) : U.rowIs b t m f :=
  h.of_block (g.block _ h.lt (fun x => row_owns_ne h ho hne x.symm))
/-- A count more. -/
theorem snocC (h : OI B R vc vl w o W vc' vl' r) (hb : r.cs.length ≤ 1000) (x : Int) :
    ∃ p c U, (Builtin.append_ #[22, 22] 22 #[vc', .slice (some ⟨W.heap.size, 0, none⟩) 1 1]).run Try.prog (W.alloc (.cells #[.int .i64 x] 3)).drew = .ok (.slice p (r.cs.length + 1) c) U ∧
      U.cell? ⟨R, 2, none⟩ = some vc' ∧ U.frozen? ⟨R, 2, none⟩ = false ∧ OI B R vc vl w o (U.setCell ⟨R, 2, none⟩ (.slice p (r.cs.length + 1) c)) (.slice p (r.cs.length + 1) c) vl' { r with cs := r.cs ++ [x] } := by
  have hlt := h.rk.row.lt
  have hB : B ≤ W.heap.size := by have := h.rk.ge; omega
  obtain ⟨p, c, U, h1, h2, h3, h4⟩ := app_one x rfl h.rk.oc hb hB
  have bel : Below W.heap.size W (W.alloc (.cells #[.int .i64 x] 3)).drew := ((Below.refl _ _).alloc (Nat.le_refl _) _).drew
  have k1 := h.rk.grow bel
  have rowU : U.rowIs R 54 4 (rackF r.free r.used vc' vl') := grow_bx k1.row k1.oc (by decide) h3
  have bxU : U.rowIs w.heap.size 44 4 (ordF o) := grow_bx (h.bx.of_block (bel.block _ h.bx.lt)) k1.oc (by decide) h3
  have olU : U.ownsRow B 3 1 vl' r.ls.length (ivals r.ls) := k1.ol.kept h3 (by
    rcases h.rk.ap with e | e
    · rw [e]; cases hv : vl'.ownBlock <;> simp
    · exact .inr (fun x => e x.symm))
  have apn : (Value.slice p (r.cs.length + 1) c).ownBlock = none ∨ (Value.slice p (r.cs.length + 1) c).ownBlock ≠ vl'.ownBlock := by
    rcases h4 with e | e
    · rw [e]; exact h.rk.ap
    · refine .inr (fun x => ?_)
      rw [e] at x
      have := (h.rk.ol.lt _ x.symm).2
      omega
  refine ⟨p, c, U, h1, rowU.cell (i := 2) (by omega), rowU.frozen 2, ⟨⟨(rowU.set 2 _).congr fun j hj => ?_, ?_, ?_, apn, h.rk.ge⟩, bxU.setOther (a := ⟨R, 2, none⟩) (by have := h.lt; show w.heap.size ≠ R; omega) _, ?_, h.lt, fun k hk => ?_⟩⟩
  · unfold rackF
    by_cases e : j = 2
    · rw [if_pos e, if_neg (by omega), if_neg (by omega), if_pos e]
    · rw [if_neg e]
      simp only [if_neg e]
  · show World.ownsRow _ B 3 1 _ (r.cs ++ [x]).length (ivals (r.cs ++ [x]))
    rw [List.length_append]
    exact ownsRow_setCell_other h2 (row_owns_ne rowU h2 (by decide)) _
  · exact ownsRow_setCell_other olU (row_owns_ne rowU olU (by decide)) _
  · refine Only.set (P := Mine R vc vl) ⟨?_, ?_, ?_, ?_, fun k hk hp => ?_⟩ (a := ⟨R, 2, none⟩) (.inl rfl) _
    · exact h3.os.trans h.on.os
    · exact h3.tape.trans h.on.tape
    · exact h3.output.trans h.on.output
    · have := h3.size; have := h.on.size; have := bel.size; omega
    · have hkW : k < W.heap.size := Nat.lt_of_lt_of_le hk h.on.size
      refine (h3.block k (Nat.lt_of_lt_of_le hkW bel.size) (fun e => ?_)).trans ((bel.block k hkW).trans (h.on.block k hk hp))
      rcases h.nw k (.inl e.symm) with m | m
      · exact hp m
      · omega
  · rcases hk with e | e
    · rcases h4 with e4 | e4
      · rw [e4] at e; exact h.nw k (.inl e)
      · rw [e4] at e
        injection e with e
        have := h.on.size
        exact .inr (by omega)
    · exact h.nw k (.inr e)
/-- Ticks more. -/
theorem snocL (h : OI B R vc vl w o W vc' vl' r) (hb : r.ls.length ≤ 1000) (x : Int) :
    ∃ p c U, (Builtin.append_ #[22, 22] 22 #[vl', .slice (some ⟨W.heap.size, 0, none⟩) 1 1]).run Try.prog (W.alloc (.cells #[.int .i64 x] 3)).drew = .ok (.slice p (r.ls.length + 1) c) U ∧
      U.cell? ⟨R, 3, none⟩ = some vl' ∧ U.frozen? ⟨R, 3, none⟩ = false ∧ OI B R vc vl w o (U.setCell ⟨R, 3, none⟩ (.slice p (r.ls.length + 1) c)) vc' (.slice p (r.ls.length + 1) c) { r with ls := r.ls ++ [x] } := by
  have hlt := h.rk.row.lt
  have hB : B ≤ W.heap.size := by have := h.rk.ge; omega
  obtain ⟨p, c, U, h1, h2, h3, h4⟩ := app_one x rfl h.rk.ol hb hB
  have bel : Below W.heap.size W (W.alloc (.cells #[.int .i64 x] 3)).drew := ((Below.refl _ _).alloc (Nat.le_refl _) _).drew
  have k1 := h.rk.grow bel
  have rowU : U.rowIs R 54 4 (rackF r.free r.used vc' vl') := grow_bx k1.row k1.ol (by decide) h3
  have bxU : U.rowIs w.heap.size 44 4 (ordF o) := grow_bx (h.bx.of_block (bel.block _ h.bx.lt)) k1.ol (by decide) h3
  have ocU : U.ownsRow B 3 1 vc' r.cs.length (ivals r.cs) := k1.oc.kept h3 (by
    rcases h.rk.ap with e | e
    · exact .inl e
    · exact .inr e)
  have apn : vc'.ownBlock = none ∨ vc'.ownBlock ≠ (Value.slice p (r.ls.length + 1) c).ownBlock := by
    rcases h4 with e | e
    · rw [e]; exact h.rk.ap
    · refine .inr (fun x => ?_)
      rw [e] at x
      have := (h.rk.oc.lt _ x).2
      omega
  refine ⟨p, c, U, h1, rowU.cell (i := 3) (by omega), rowU.frozen 3, ⟨⟨(rowU.set 3 _).congr fun j hj => ?_, ?_, ?_, apn, h.rk.ge⟩, bxU.setOther (a := ⟨R, 3, none⟩) (by have := h.lt; show w.heap.size ≠ R; omega) _, ?_, h.lt, fun k hk => ?_⟩⟩
  · unfold rackF
    by_cases e : j = 3
    · rw [if_pos e, if_neg (by omega), if_neg (by omega), if_neg (by omega)]
    · rw [if_neg e]
      by_cases e0 : j = 0
      · rw [if_pos e0, if_pos e0]
      by_cases e1 : j = 1
      · rw [if_neg e0, if_pos e1, if_neg e0, if_pos e1]
      · rw [if_neg e0, if_neg e1, if_pos (by omega), if_neg e0, if_neg e1, if_pos (by omega)]
  · exact ownsRow_setCell_other ocU (row_owns_ne rowU ocU (by decide)) _
  · show World.ownsRow _ B 3 1 _ (r.ls ++ [x]).length (ivals (r.ls ++ [x]))
    rw [List.length_append]
    exact ownsRow_setCell_other h2 (row_owns_ne rowU h2 (by decide)) _
  · refine Only.set (P := Mine R vc vl) ⟨?_, ?_, ?_, ?_, fun k hk hp => ?_⟩ (a := ⟨R, 3, none⟩) (.inl rfl) _
    · exact h3.os.trans h.on.os
    · exact h3.tape.trans h.on.tape
    · exact h3.output.trans h.on.output
    · have := h3.size; have := h.on.size; have := bel.size; omega
    · have hkW : k < W.heap.size := Nat.lt_of_lt_of_le hk h.on.size
      refine (h3.block k (Nat.lt_of_lt_of_le hkW bel.size) (fun e => ?_)).trans ((bel.block k hkW).trans (h.on.block k hk hp))
      rcases h.nw k (.inr e.symm) with m | m
      · exact hp m
      · omega
  · rcases hk with e | e
    · exact h.nw k (.inl e)
    · rcases h4 with e4 | e4
      · rw [e4] at e; exact h.nw k (.inr e)
      · rw [e4] at e
        injection e with e
        have := h.on.size
        exact .inr (by omega)
end OI
theorem RkI.c_len {B : Nat} {w : World} {R : Nat} {vc vl : Value} {r : Plain.Rk} (h : RkI B w R vc vl r) : (∃ p c, vc = .slice p r.cs.length c) ∧ ∃ p c, vl = .slice p r.ls.length c := by
  obtain ⟨pc, cc, pl, cl, e1, e2, _⟩ := h.forms
  exact ⟨⟨pc, cc, e1⟩, ⟨pl, cl, e2⟩⟩

set_option maxHeartbeats 8000000 in
set_option maxRecDepth 100000 in
/-- Hold. -/
theorem ord_hold (B R : Nat) (vc vl : Value) (r : Plain.Rk) (g : Int) (hv : Plain.Hv r g) (hb : r.cs.length ≤ 900) (c l i : Int) (c1 : 1 ≤ c) (c2 : c ≤ 1048576) (w : World) (h : RkI B w R vc vl r) :
    Calls Try.prog 30 #[.pointer (some ⟨R, 0, none⟩), aggO ⟨3, c, l, i⟩] w fun e w' => OrdPost B R vc vl r ⟨3, c, l, i⟩ w e w' := by
  have hE : Plain.ordE r ⟨3, c, l, i⟩ = if l < 1 ∨ 20 < l then 2 else if 4 ≤ Plain.opensL r.ls then 8 else if r.free < c then 9 else 0 := by
    unfold Plain.ordE
    dsimp only
    rw [if_neg (by omega), if_neg (fun x => by have := x.2; omega), if_neg (by omega), if_neg (by omega), if_neg (by omega), if_pos rfl]
  have hI : Plain.ordE r ⟨3, c, l, i⟩ = 0 → Plain.ordI r ⟨3, c, l, i⟩ = r.cs.length + 1 := fun h0 => by unfold Plain.ordI; rw [if_pos ⟨h0, rfl⟩]
  have hR : Plain.ordR r ⟨3, c, l, i⟩ = { r with free := r.free - c, cs := r.cs ++ [c], ls := r.ls ++ [l] } := by
    unfold Plain.ordR
    dsimp only
    rw [if_neg (by omega), if_neg (by omega), if_neg (by omega), if_pos rfl]
  obtain ⟨⟨f1, f2⟩, _⟩ := hv.bds
  have hlb : r.ls.length ≤ 900 := by rw [← hv.ln]; exact hb
  have hob := Plain.opensL_nonneg r.ls
  have hob2 := hv.op
  obtain ⟨W, hW⟩ : ∃ W, W = w.alloc (boxO ⟨3, c, l, i⟩) := ⟨_, rfl⟩
  have O0 : Hid (OI B R vc vl w ⟨3, c, l, i⟩ W vc vl r) := hid (by rw [hW]; exact OI.start h)
  have BW := hid (show Below w.heap.size w W by rw [hW]; exact (Below.refl _ _).alloc (Nat.le_refl _) _)
  have KO := opens_c B R vc vl r (by omega) W O0.out.rk
  rw [hW] at KO
  have HH := hid h
  have HE := hid hE
  have HI := hid hI
  have HR := hid hR
  clear h hE hI hR hv
  have r0 := O0.out.rk.c0
  have x1 := O0.out.b1
  dsimp only at x1
  obtain ⟨f, hf⟩ : ∃ f, f = r.free := ⟨_, rfl⟩
  rw [← hf] at r0 f1 f2
  have HF := hid hf
  clear hf
  have HO := hid (show Plain.opensL r.ls = Plain.opensL r.ls from rfl)
  by_cases hl : l < 1 ∨ 20 < l
  · have P := hid (fun w' gg => ordPost_no (w := w) (w' := w') (E := 2) (HE.out.trans (by rw [if_pos hl])) (by decide) HH.out gg)
    clear KO
    by_cases hl1 : l < 1
    · go_enter Try.func30, Try.ntmps30
      go_wp2
      go_ret2
      exact P.out _ (hW ▸ BW.out)
    · have hl2 : 20 < l := by omega
      go_enter Try.func30, Try.ntmps30
      go_wp2
      go_ret2
      exact P.out _ (hW ▸ BW.out)
  have l1 : ¬ l < 1 := by omega
  have l2 : ¬ 20 < l := by omega
  have HE1 := hid (HE.out.trans (by rw [if_neg hl]))
  clear HE hl
  generalize Plain.opensL r.ls = op at KO hob hob2 HE1
  clear HO
  by_cases hop : 4 ≤ op
  · have P := hid (fun w' gg => ordPost_no (w := w) (w' := w') (E := 8) (HE1.out.trans (by rw [if_pos hop])) (by decide) HH.out gg)
    go_enter Try.func30, Try.ntmps30
    go_wp2_with fail
    refine KO.mono ?_
    rintro e w' ⟨rfl, rfl⟩
    clear KO
    go_wp2
    go_ret2
    exact P.out _ (hW ▸ BW.out)
  have HE2 := hid (HE1.out.trans (by rw [if_neg hop]))
  clear HE1
  go_enter Try.func30, Try.ntmps30
  go_wp2_with fail
  refine KO.mono ?_
  rintro e w' ⟨rfl, rfl⟩
  clear KO
  rw [← hW]
  clear hW
  by_cases hlt : f < c
  · have hd : decide (f < c) = true := by rw [decide_eq_true_iff]; exact hlt
    have P := hid (fun w' gg => ordPost_no (w := w) (w' := w') (E := 9) (HE2.out.trans (by rw [← HF.out, if_pos hlt])) (by decide) HH.out gg)
    go_wp2
    go_quiet (fail)
    go_wp2
    go_ret2
    exact P.out _ (below_drewN BW.out _)
  · have hd : decide (f < c) = false := by rw [decide_eq_false_iff_not]; exact hlt
    have HE0 := hid (HE2.out.trans (by rw [← HF.out, if_neg hlt]))
    go_wp2
    go_quiet (fail)
    obtain ⟨W2, hW2⟩ : ∃ W2, W2 = W.drewN nq := ⟨_, rfl⟩
    rw [← hW2]
    have O2 : Hid (OI B R vc vl w ⟨3, c, l, i⟩ W2 vc vl r) := hid (by rw [hW2]; exact O0.out.drewN nq)
    clear hW2 r0 x1 hd BW O0
    have r0 := O2.out.rk.c0
    have x1 := O2.out.b1
    have z0 := O2.out.f0
    rw [← HF.out] at r0
    dsimp only at x1
    obtain ⟨f', hf'⟩ : ∃ f', f' = f - c := ⟨_, rfl⟩
    have hw1 : IntKind.i64.wrap (f - c) = f' := by rw [hf', IntKind.wrap_i64]; omega
    have HF' := hid (show f' = r.free - c by rw [hf', HF.out])
    clear hf'
    go_wp2
    go_region
    all_goals
      obtain ⟨W3, hW3⟩ : ∃ W3, W3 = (W2.setCell ⟨R, 0, none⟩ (.int .i64 f')).drew := ⟨_, rfl⟩
      rw [← hW3]
      have O3 : Hid (OI B R vc vl w ⟨3, c, l, i⟩ W3 vc vl { r with free := f' }) := hid (by rw [hW3]; exact (O2.out.free f').drewN 1)
      clear hW3 r0 x1 z0 hw1 O2
      obtain ⟨⟨pc, cc, ec⟩, ⟨pl, cl, el⟩⟩ := O3.out.rk.c_len
      dsimp only at ec el
      have r2 := O3.out.rk.c2
      have x1 := O3.out.b1
      dsimp only at x1
      obtain ⟨p', c', U, hrun, u2, uf, O4⟩ := O3.out.snocC (by show r.cs.length ≤ 1000; omega) c
      dsimp only at hrun O4
      rw [ec] at r2 hrun u2
      have R4 := hid hrun
      have Q4 := hid O4
      clear hrun O4 O3
      generalize hn : r.cs.length = n at *
      have HN := hid hn
      clear hn
      have r2a : (W3.alloc (.cells #[.int .i64 c] 3)).cell? ⟨R, 2, none⟩ = some (.slice pc n cc) := by rw [World.cell?_alloc_lt _ _ _ (World.block_lt_of_cell? (w := W3) (h := r2))]; exact r2
      go_wp2
      go_region_law (refine step_appG _ _ 22 rfl 22 rfl (.slice pc n cc) (.slice (some ⟨W3.heap.size, 0, none⟩) 1 1) (by simp [Act.eval]) (by simp [Act.eval]) R4.out (by rfl) ?_)
      all_goals
        obtain ⟨W4, hW4⟩ : ∃ W4, W4 = U.setCell ⟨R, 2, none⟩ (.slice p' (n + 1) c') := ⟨_, rfl⟩
        rw [← hW4] at Q4 ⊢
        clear hW4 r2 r2a x1 u2 uf R4
        have r3 := Q4.out.rk.c3
        have x2 := Q4.out.b2
        dsimp only at x2
        obtain ⟨p5, c5, U5, hrun, u3, uf, O5⟩ := Q4.out.snocL (by show r.ls.length ≤ 1000; omega) l
        dsimp only at hrun O5
        rw [el] at r3 hrun u3
        have R5 := hid hrun
        have Q5 := hid O5
        clear hrun O5 Q4
        generalize r.ls.length = m at *
        have r3a : (W4.alloc (.cells #[.int .i64 l] 3)).cell? ⟨R, 3, none⟩ = some (.slice pl m cl) := by rw [World.cell?_alloc_lt _ _ _ (World.block_lt_of_cell? (w := W4) (h := r3))]; exact r3
        go_wp2
        go_region_law (refine step_appG _ _ 22 rfl 22 rfl (.slice pl m cl) (.slice (some ⟨W4.heap.size, 0, none⟩) 1 1) (by simp [Act.eval]) (by simp [Act.eval]) R5.out (by rfl) ?_)
        all_goals
          obtain ⟨W5, hW5⟩ : ∃ W5, W5 = U5.setCell ⟨R, 3, none⟩ (.slice p5 (m + 1) c5) := ⟨_, rfl⟩
          rw [← hW5] at Q5 ⊢
          clear hW5 r3 r3a x2 u3 uf R5
          have r2 := Q5.out.rk.c2
          go_wp2
          go_ret2
          exact ordPost_yes HE0.out (by rw [HI.out HE0.out]) (by rw [HR.out, ← HF'.out]) Q5.out.rk Q5.out.on
end Go.Proofs.Ytiolkeghgodggah.Hd
