/-
  seal: Open.
-/
import Derived.Test.YtiolkeghgodggaiS6
namespace Go.Proofs.Ytiolkeghgodggai.Se
open Go.RowKit Go.Shelf Go.Sort Go.Lib

theorem eql_map_in (w : World) (d : Nat) (a : Option Nat) : (Op.equalIn (d + 1) 62 (.map a) (.map none)).run Try.prog w = .ok a.isNone w := by
  cases a <;> simp [Op.equalIn, run_underlying Try.underlying62]
theorem eql_map_nil (w : World) (a : Option Nat) : (binOp .eql 62 (.map a) (.map none)).run Try.prog w = .ok (.bool a.isNone) w := by
  simp only [binOp]
  simp [Op.equal, Op.maxDepth, eql_map_in w 9999 a]

theorem OfI.opened {R oo n k : Nat} {XX : Win} {W W' : World} {vo : Value} {M : Nat} {P : List RP} {o : Plain.Off} (h : OfI R oo XX W vo (.map (some M)) P o n) (hold : Plain.oldO o k = false) {f t : Int} (hf : (o.at k).frm = f) (ht : (o.at k).«to» = t)
    (hm : MapI W' M (n + 1) (fun a b => if f = a ∧ t = b then k + 1 else Plain.nextF o a b)) (hg : W.grownBy W' (some M)) : OfI R oo XX W' vo (.map (some M)) P { o with opened := o.opened ++ [k] } (n + 1) := by
  have kp : Kp (ownS vo (.map (some M))) R W W' := Kp.grown1 (.inr rfl) hg
  have hne : vo.ownBlock ≠ some M := fun e => by
    obtain ⟨es, ck, hb⟩ := h.mp.is_map rfl
    rcases h.ow.2 with ⟨rfl, _⟩ | ⟨g, cap, cur, rfl, _, hg', _⟩
    · simp [Value.ownBlock] at e
    · simp only [Value.ownBlock, Option.some.injEq] at e
      subst e
      rw [hg'] at hb; cases hb
  have hR : M ≠ R := fun e => h.nown (.inr (by rw [e]))
  refine ⟨h.row.of_block (hg.block R h.row.lt (fun e => hR (by injection e with e; exact e.symm))), h.ow.kept hg (.inr hne), fun r hr => (h.bs r hr).keep (h.kb kp), h.po, .inr ⟨M, rfl, hm.congr fun a b => ?_⟩, h.nl, h.nb, h.le⟩
  rw [Plain.next_open hold, hf, ht]

/-- A map is made. -/
theorem OfI.mapped {R oo n : Nat} {XX : Win} {W : World} {vo : Value} {P : List RP} {o : Plain.Off} (h : OfI R oo XX W vo (.map none) P o n) :
    OfI R oo XX ((W.alloc (.map #[] 0)).setCell ⟨R, oo + 1, none⟩ (.map (some W.heap.size))) vo (.map (some W.heap.size)) P o n := by
  have bel : Below W.heap.size W (W.alloc (.map #[] 0)) := (Below.refl _ _).alloc (Nat.le_refl _) _
  have h1 := h.grow bel
  have hz : ∀ f t, Plain.nextF o f t = 0 := by
    rcases h.mp with ⟨_, x⟩ | ⟨M, e, _⟩
    · exact x
    · cases e
  have hblk : ∀ k, k ≠ R → ((W.alloc (.map #[] 0)).setCell ⟨R, oo + 1, none⟩ (.map (some W.heap.size))).heap[k]? = (W.alloc (.map #[] 0)).heap[k]? := fun k hk => Below.heap_setCell _ ⟨R, oo + 1, none⟩ _ k hk
  refine ⟨Win.set h1.row 1 (by omega) _ fun j hj => ?_, ownsRow_setCell_other h1.ow (fun e => h1.nown (.inl e)) _, fun r hr => (h1.bs r hr).keep ⟨rfl, rfl, rfl, by simp, fun k _ hk => ?_⟩, h.po, .inr ⟨_, rfl, ?_⟩, h.nl, h.nb, h.le⟩
  · unfold offF
    by_cases e : j = 1
    · rw [if_pos e, if_neg (by omega)]
    · rw [if_neg e, if_pos (by omega), if_pos (by omega)]
  · rcases hk with x | ⟨cs, fr, x⟩
    · omega
    · exact hblk k (h1.not_byte x).1
  · refine ((MapI.made W).of_block (hblk _ (fun e => ?_))).mono (Nat.zero_le n) |>.congr fun f t => (hz f t).symm
    have := h.row.lt
    omega

set_option maxHeartbeats 4000000 in
set_option maxRecDepth 100000 in
theorem open_to (R oo n : Nat) (XX : Win) (vo vm : Value) (P : List RP) (o : Plain.Off) (_hb : P.length ≤ 100000) (x : Plain.Le) (hk : x.kind = 2) (ht : x.to < 0 ∨ 8 < x.to)
    (w : World) (h : OfI R oo XX w vo vm P o n) :
    Calls Try.prog 25 #[.pointer (some ⟨R, oo, none⟩), .int .i64 x.to, .int .i64 x.id] w fun e w' => DoP R oo XX vo vm o x n w e w' := by
  have P0 := hid (fun w' gg => doP_no (w := w) (w' := w') (x := x) (E := 2) (by unfold Plain.leE; rw [if_neg (by omega), if_pos (by omega)]) (by decide) h gg)
  obtain ⟨WA, hWA⟩ : ∃ WA, WA = w.alloc zeroD := ⟨_, rfl⟩
  have rG := hid (show WA.rowIs w.heap.size 44 4 (odF ⟨⟨0, 0, 0, []⟩, none, 0⟩) by rw [hWA]; exact rowD_new w ⟨⟨0, 0, 0, []⟩, none, 0⟩)
  have BA := hid (show Below w.heap.size w WA by rw [hWA]; exact (Below.refl _ _).alloc (Nat.le_refl _) _)
  have K := refused_c 2 WA
  have KT := fun W => party_f ht W
  clear h ht
  generalize x.to = xt at *
  go_enter Try.func25, Try.ntmps25
  go_wp2_with (first | (go_at_call 29; refine (KT _).mono ?_; rintro e w' ⟨rfl, rfl⟩) | fail)
  rw [← hWA]
  clear hWA
  refine K.mono ?_
  rintro e W1 ⟨rfl, b1⟩
  have R1 := hid (rG.out.of_block (b1.block _ rG.out.lt))
  have B1 := hid (BA.out.trans (b1.mono BA.out.size))
  clear K b1 rG BA
  have y0 := R1.out.cell (i := 0) (by omega)
  have y1 := R1.out.cell (i := 1) (by omega)
  have y2 := R1.out.cell (i := 2) (by omega)
  have y3 := R1.out.cell (i := 3) (by omega)
  have z0 := R1.out.frozen 0
  have z1 := R1.out.frozen 1
  have z2 := R1.out.frozen 2
  have z3 := R1.out.frozen 3
  go_wp2
  (try simp only [Exit.inBlock, Exit.then])
  obtain ⟨W6, hW6⟩ : ∃ W6, W6 = (((W1.setCell ⟨w.heap.size, 0, none⟩ (.int .i64 2)).setCell ⟨w.heap.size, 1, none⟩ (.int .i64 0)).setCell ⟨w.heap.size, 2, none⟩ (.int .i64 0)).setCell ⟨w.heap.size, 3, none⟩ (.slice none 0 0) := ⟨_, rfl⟩
  rw [← hW6]
  have R6 : W6.rowIs (w.heap.size) 44 4 (odF ⟨⟨2, 0, 0, []⟩, none, 0⟩) := by rw [hW6]; exact putD_row R1.out ⟨⟨2, 0, 0, []⟩, none, 0⟩
  have B6 : Below w.heap.size w W6 := by rw [hW6]; exact putD_below B1.out (by omega) 0 ⟨⟨2, 0, 0, []⟩, none, 0⟩
  clear hW6
  exact bodyPost_D rfl (w.heap.size) ⟨⟨2, 0, 0, []⟩, none, 0⟩ rfl R6 rfl (P0.out _ B6)

set_option maxHeartbeats 4000000 in
set_option maxRecDepth 100000 in
theorem open_none (R oo n : Nat) (XX : Win) (vo vm : Value) (P : List RP) (o : Plain.Off) (hb : P.length ≤ 100000) (x : Plain.Le) (hk : x.kind = 2) (ht : 0 ≤ x.to ∧ x.to ≤ 8) (hno : x.id < 0 ∨ (P.length : Int) ≤ x.id)
    (w : World) (h : OfI R oo XX w vo vm P o n) :
    Calls Try.prog 25 #[.pointer (some ⟨R, oo, none⟩), .int .i64 x.to, .int .i64 x.id] w fun e w' => DoP R oo XX vo vm o x n w e w' := by
  have P0 := hid (fun w' gg => doP_no (w := w) (w' := w') (x := x) (E := 6) (by unfold Plain.leE; rw [if_neg (by omega), if_neg (by omega), if_neg (by omega), if_pos (by rw [h.len]; exact hno)]) (by decide) h gg)
  obtain ⟨WA, hWA⟩ : ∃ WA, WA = w.alloc zeroD := ⟨_, rfl⟩
  have rG := hid (show WA.rowIs w.heap.size 44 4 (odF ⟨⟨0, 0, 0, []⟩, none, 0⟩) by rw [hWA]; exact rowD_new w ⟨⟨0, 0, 0, []⟩, none, 0⟩)
  have BA := hid (show Below w.heap.size w WA by rw [hWA]; exact (Below.refl _ _).alloc (Nat.le_refl _) _)
  have KT := fun W => party_t ht W
  have KS := seen_c R oo n XX vo vm P o hb x.id WA (h.grow BA.out)
  rw [show Plain.seenE o x.id = 6 by unfold Plain.seenE; rw [h.len, if_pos hno], show Plain.seenV o x.id = Plain.noEv by unfold Plain.seenV; rw [h.len, if_pos hno]] at KS
  clear h hno ht
  generalize x.to = xt at *
  generalize x.id = xi at *
  go_enter Try.func25, Try.ntmps25
  go_wp2_with (first | (go_at_call 29; refine (KT _).mono ?_; rintro e w' ⟨rfl, rfl⟩) | fail)
  rw [← hWA]
  clear hWA KT
  refine KS.mono ?_
  rintro e WS ⟨rfl, bs⟩
  have rS := hid (rG.out.of_block (bs.block _ rG.out.lt))
  have BS := hid (BA.out.trans (bs.mono BA.out.size))
  clear KS bs rG BA
  obtain ⟨WB, hWB⟩ : ∃ WB, WB = WS.alloc (boxV Plain.noEv) := ⟨_, rfl⟩
  have rG := hid (show WB.rowIs w.heap.size 44 4 (odF ⟨⟨0, 0, 0, []⟩, none, 0⟩) by rw [hWB]; exact rS.out.alloc _)
  have BA := hid (show Below w.heap.size w WB by rw [hWB]; exact BS.out.alloc BS.out.size _)
  have K := refused_c 6 WB
  clear rS BS
  go_wp2_with fail
  rw [← hWB]
  clear hWB
  refine K.mono ?_
  rintro e W1 ⟨rfl, b1⟩
  have R1 := hid (rG.out.of_block (b1.block _ rG.out.lt))
  have B1 := hid (BA.out.trans (b1.mono BA.out.size))
  clear K b1 rG BA
  have y0 := R1.out.cell (i := 0) (by omega)
  have y1 := R1.out.cell (i := 1) (by omega)
  have y2 := R1.out.cell (i := 2) (by omega)
  have y3 := R1.out.cell (i := 3) (by omega)
  have z0 := R1.out.frozen 0
  have z1 := R1.out.frozen 1
  have z2 := R1.out.frozen 2
  have z3 := R1.out.frozen 3
  go_wp2
  (try simp only [Exit.inBlock, Exit.then])
  obtain ⟨W6, hW6⟩ : ∃ W6, W6 = (((W1.setCell ⟨w.heap.size, 0, none⟩ (.int .i64 6)).setCell ⟨w.heap.size, 1, none⟩ (.int .i64 0)).setCell ⟨w.heap.size, 2, none⟩ (.int .i64 0)).setCell ⟨w.heap.size, 3, none⟩ (.slice none 0 0) := ⟨_, rfl⟩
  rw [← hW6]
  have R6 : W6.rowIs (w.heap.size) 44 4 (odF ⟨⟨6, 0, 0, []⟩, none, 0⟩) := by rw [hW6]; exact putD_row R1.out ⟨⟨6, 0, 0, []⟩, none, 0⟩
  have B6 : Below w.heap.size w W6 := by rw [hW6]; exact putD_below B1.out (by omega) 0 ⟨⟨6, 0, 0, []⟩, none, 0⟩
  clear hW6
  exact bodyPost_D rfl (w.heap.size) ⟨⟨6, 0, 0, []⟩, none, 0⟩ rfl R6 rfl (P0.out _ B6)

set_option maxHeartbeats 4000000 in
set_option maxRecDepth 100000 in
theorem open_denied (R oo n : Nat) (XX : Win) (vo vm : Value) (P : List RP) (o : Plain.Off) (hb : P.length ≤ 100000) (x : Plain.Le) (hk : x.kind = 2) (hgo : Plain.Good o) (ht : 0 ≤ x.to ∧ x.to ≤ 8) (hyes : ¬ (x.id < 0 ∨ (P.length : Int) ≤ x.id)) (hto : (P.getD x.id.toNat default).y.to ≠ x.to)
    (w : World) (h : OfI R oo XX w vo vm P o n) :
    Calls Try.prog 25 #[.pointer (some ⟨R, oo, none⟩), .int .i64 x.to, .int .i64 x.id] w fun e w' => DoP R oo XX vo vm o x n w e w' := by
  have P0 := hid (fun w' gg => doP_no (w := w) (w' := w') (x := x) (E := 11) (by unfold Plain.leE; rw [if_neg (by omega), if_neg (by omega), if_neg (by omega), if_neg (by rw [h.len]; exact hyes), if_pos (by rw [h.at' (by omega)]; exact hto)]) (by decide) h gg)
  obtain ⟨WA, hWA⟩ : ∃ WA, WA = w.alloc zeroD := ⟨_, rfl⟩
  have rG := hid (show WA.rowIs w.heap.size 44 4 (odF ⟨⟨0, 0, 0, []⟩, none, 0⟩) by rw [hWA]; exact rowD_new w ⟨⟨0, 0, 0, []⟩, none, 0⟩)
  have BA := hid (show Below w.heap.size w WA by rw [hWA]; exact (Below.refl _ _).alloc (Nat.le_refl _) _)
  have KT := fun W => party_t ht W
  have KS := seen_c R oo n XX vo vm P o hb x.id WA (h.grow BA.out)
  obtain ⟨k, hxi⟩ : ∃ k : Nat, x.id = k := ⟨x.id.toNat, by omega⟩
  have hkl : k < P.length := by omega
  have hat := h.at' hkl
  have hgk := hgo.at (k := k) (by rw [h.len]; exact hkl)
  rw [show Plain.seenE o x.id = 0 by unfold Plain.seenE; rw [h.len, if_neg hyes], show Plain.seenV o x.id = ⟨k, (P.getD k default).y.frm, (P.getD k default).y.to, (P.getD k default).y.data.length⟩ by unfold Plain.seenV; rw [h.len, if_neg hyes, hxi, show ((k : Nat) : Int).toNat = k by omega, hat]] at KS
  rw [hxi, show ((k : Nat) : Int).toNat = k by omega] at hto
  rw [hxi] at KS ⊢
  clear h hat hgk hyes ht
  generalize P.getD k default = y at *
  obtain ⟨⟨yf, yt, yd⟩, yp, yc⟩ := y
  dsimp only at KS hto
  generalize yd.length = m at *
  have hg : (yt != x.to) = true := by simpa using hto
  generalize x.to = xt at *
  go_enter Try.func25, Try.ntmps25
  go_wp2_with (first | (go_at_call 29; refine (KT _).mono ?_; rintro e w' ⟨rfl, rfl⟩) | fail)
  rw [← hWA]
  clear hWA KT
  refine KS.mono ?_
  rintro e WS ⟨rfl, bs⟩
  have rS := hid (rG.out.of_block (bs.block _ rG.out.lt))
  have BS := hid (BA.out.trans (bs.mono BA.out.size))
  clear KS bs rG BA
  obtain ⟨WB, hWB⟩ : ∃ WB, WB = WS.alloc (boxV ⟨k, yf, yt, m⟩) := ⟨_, rfl⟩
  have rG := hid (show WB.rowIs w.heap.size 44 4 (odF ⟨⟨0, 0, 0, []⟩, none, 0⟩) by rw [hWB]; exact rS.out.alloc _)
  have BA := hid (show Below w.heap.size w WB by rw [hWB]; exact BS.out.alloc BS.out.size _)
  have K := refused_c 11 WB
  clear rS BS
  go_wp2_with fail
  rw [← hWB]
  clear hWB
  refine K.mono ?_
  rintro e W1 ⟨rfl, b1⟩
  have R1 := hid (rG.out.of_block (b1.block _ rG.out.lt))
  have B1 := hid (BA.out.trans (b1.mono BA.out.size))
  clear K b1 rG BA
  have y0 := R1.out.cell (i := 0) (by omega)
  have y1 := R1.out.cell (i := 1) (by omega)
  have y2 := R1.out.cell (i := 2) (by omega)
  have y3 := R1.out.cell (i := 3) (by omega)
  have z0 := R1.out.frozen 0
  have z1 := R1.out.frozen 1
  have z2 := R1.out.frozen 2
  have z3 := R1.out.frozen 3
  go_wp2
  (try simp only [Exit.inBlock, Exit.then])
  obtain ⟨W6, hW6⟩ : ∃ W6, W6 = (((W1.setCell ⟨w.heap.size, 0, none⟩ (.int .i64 11)).setCell ⟨w.heap.size, 1, none⟩ (.int .i64 0)).setCell ⟨w.heap.size, 2, none⟩ (.int .i64 0)).setCell ⟨w.heap.size, 3, none⟩ (.slice none 0 0) := ⟨_, rfl⟩
  rw [← hW6]
  have R6 : W6.rowIs (w.heap.size) 44 4 (odF ⟨⟨11, 0, 0, []⟩, none, 0⟩) := by rw [hW6]; exact putD_row R1.out ⟨⟨11, 0, 0, []⟩, none, 0⟩
  have B6 : Below w.heap.size w W6 := by rw [hW6]; exact putD_below B1.out (by omega) 0 ⟨⟨11, 0, 0, []⟩, none, 0⟩
  clear hW6
  exact bodyPost_D rfl (w.heap.size) ⟨⟨11, 0, 0, []⟩, none, 0⟩ rfl R6 rfl (P0.out _ B6)

set_option maxHeartbeats 4000000 in
set_option maxRecDepth 100000 in
theorem open_old (R oo n : Nat) (XX : Win) (vo vm : Value) (P : List RP) (o : Plain.Off) (hb : P.length ≤ 100000) (x : Plain.Le) (hk : x.kind = 2) (hgo : Plain.Good o) (ht : 0 ≤ x.to ∧ x.to ≤ 8) (hyes : ¬ (x.id < 0 ∨ (P.length : Int) ≤ x.id)) (hto : (P.getD x.id.toNat default).y.to = x.to) (hold : Plain.oldO o x.id.toNat = true)
    (w : World) (h : OfI R oo XX w vo vm P o n) :
    Calls Try.prog 25 #[.pointer (some ⟨R, oo, none⟩), .int .i64 x.to, .int .i64 x.id] w fun e w' => DoP R oo XX vo vm o x n w e w' := by
  have P0 := hid (fun w' gg => doP_no (w := w) (w' := w') (x := x) (E := 10) (by unfold Plain.leE; rw [if_neg (by omega), if_neg (by omega), if_neg (by omega), if_neg (by rw [h.len]; exact hyes), if_neg (by rw [h.at' (by omega)]; simpa using hto), if_pos hold]) (by decide) h gg)
  obtain ⟨WA, hWA⟩ : ∃ WA, WA = w.alloc zeroD := ⟨_, rfl⟩
  have rG := hid (show WA.rowIs w.heap.size 44 4 (odF ⟨⟨0, 0, 0, []⟩, none, 0⟩) by rw [hWA]; exact rowD_new w ⟨⟨0, 0, 0, []⟩, none, 0⟩)
  have BA := hid (show Below w.heap.size w WA by rw [hWA]; exact (Below.refl _ _).alloc (Nat.le_refl _) _)
  have KT := fun W => party_t ht W
  have KS := seen_c R oo n XX vo vm P o hb x.id WA (h.grow BA.out)
  obtain ⟨k, hxi⟩ : ∃ k : Nat, x.id = k := ⟨x.id.toNat, by omega⟩
  have hkl : k < P.length := by omega
  have hat := h.at' hkl
  have hgk := hgo.at (k := k) (by rw [h.len]; exact hkl)
  rw [show Plain.seenE o x.id = 0 by unfold Plain.seenE; rw [h.len, if_neg hyes], show Plain.seenV o x.id = ⟨k, (P.getD k default).y.frm, (P.getD k default).y.to, (P.getD k default).y.data.length⟩ by unfold Plain.seenV; rw [h.len, if_neg hyes, hxi, show ((k : Nat) : Int).toNat = k by omega, hat]] at KS
  rw [hxi, show ((k : Nat) : Int).toNat = k by omega] at hto hold
  rw [hat] at hgk
  have hnx := Plain.old_next o k
  rw [hat, hold] at hnx
  have HH := hid h
  have KO := fun W (g : Below w.heap.size w W) => isOld_c R oo n XX vo vm P o ⟨k, (P.getD k default).y.frm, (P.getD k default).y.to, (P.getD k default).y.data.length⟩ hgk.1 hgk.2.1 W (h.grow g)
  rw [hxi] at KS ⊢
  clear h hat hgk hyes ht hold
  generalize P.getD k default = y at *
  obtain ⟨⟨yf, yt, yd⟩, yp, yc⟩ := y
  dsimp only at KS hto KO hnx
  generalize yd.length = m at *
  rw [hto] at KS KO hnx
  clear hto
  have hg : (x.to != x.to) = false := by simp
  obtain ⟨nx, hnx'⟩ : ∃ nx, nx = Plain.nextF o yf x.to := ⟨_, rfl⟩
  rw [← hnx'] at KO hnx
  clear hnx'
  have hd : decide ((k : Int) < (nx : Int)) = true := by
    have := of_decide_eq_true hnx.symm
    exact decide_eq_true (by omega)
  rw [hd] at KO
  clear hnx
  generalize x.to = xt at *
  go_enter Try.func25, Try.ntmps25
  go_wp2_with (first | (go_at_call 29; refine (KT _).mono ?_; rintro e w' ⟨rfl, rfl⟩) | fail)
  rw [← hWA]
  clear hWA KT
  refine KS.mono ?_
  rintro e WS ⟨rfl, bs⟩
  have rS := hid (rG.out.of_block (bs.block _ rG.out.lt))
  have BS := hid (BA.out.trans (bs.mono BA.out.size))
  clear KS bs rG BA
  obtain ⟨WB, hWB⟩ : ∃ WB, WB = WS.alloc (boxV ⟨k, yf, xt, m⟩) := ⟨_, rfl⟩
  have rB := hid (show WB.rowIs w.heap.size 44 4 (odF ⟨⟨0, 0, 0, []⟩, none, 0⟩) by rw [hWB]; exact rS.out.alloc _)
  have BB := hid (show Below w.heap.size w WB by rw [hWB]; exact BS.out.alloc BS.out.size _)
  have KO2 := KO WB BB.out
  clear KO rS BS
  go_wp2_with fail
  rw [← hWB]
  clear hWB
  refine KO2.mono ?_
  rintro e WC ⟨rfl, bc⟩
  have rG := hid (rB.out.of_block (bc.block _ rB.out.lt))
  have BA := hid (BB.out.trans (bc.mono BB.out.size))
  clear KO2 bc rB BB
  have K := refused_c 10 WC
  go_wp2_with fail
  refine K.mono ?_
  rintro e W1 ⟨rfl, b1⟩
  have R1 := hid (rG.out.of_block (b1.block _ rG.out.lt))
  have B1 := hid (BA.out.trans (b1.mono BA.out.size))
  clear K b1 rG BA
  have y0 := R1.out.cell (i := 0) (by omega)
  have y1 := R1.out.cell (i := 1) (by omega)
  have y2 := R1.out.cell (i := 2) (by omega)
  have y3 := R1.out.cell (i := 3) (by omega)
  have z0 := R1.out.frozen 0
  have z1 := R1.out.frozen 1
  have z2 := R1.out.frozen 2
  have z3 := R1.out.frozen 3
  go_wp2
  (try simp only [Exit.inBlock, Exit.then])
  obtain ⟨W6, hW6⟩ : ∃ W6, W6 = (((W1.setCell ⟨w.heap.size, 0, none⟩ (.int .i64 10)).setCell ⟨w.heap.size, 1, none⟩ (.int .i64 0)).setCell ⟨w.heap.size, 2, none⟩ (.int .i64 0)).setCell ⟨w.heap.size, 3, none⟩ (.slice none 0 0) := ⟨_, rfl⟩
  rw [← hW6]
  have R6 : W6.rowIs (w.heap.size) 44 4 (odF ⟨⟨10, 0, 0, []⟩, none, 0⟩) := by rw [hW6]; exact putD_row R1.out ⟨⟨10, 0, 0, []⟩, none, 0⟩
  have B6 : Below w.heap.size w W6 := by rw [hW6]; exact putD_below B1.out (by omega) 0 ⟨⟨10, 0, 0, []⟩, none, 0⟩
  clear hW6
  exact bodyPost_D rfl (w.heap.size) ⟨⟨10, 0, 0, []⟩, none, 0⟩ rfl R6 rfl (P0.out _ B6)

set_option maxHeartbeats 4000000 in
set_option maxRecDepth 100000 in
theorem open_yes_nil (R oo n : Nat) (XX : Win) (vo : Value) (P : List RP) (o : Plain.Off) (hb : P.length ≤ 90000) (hn : n ≤ 90000) (x : Plain.Le) (hk : x.kind = 2) (hgo : Plain.Good o) (ht : 0 ≤ x.to ∧ x.to ≤ 8) (hyes : ¬ (x.id < 0 ∨ (P.length : Int) ≤ x.id)) (hto : (P.getD x.id.toNat default).y.to = x.to) (hold : Plain.oldO o x.id.toNat = false)
    (w : World) (h : OfI R oo XX w vo (.map none) P o n) :
    Calls Try.prog 25 #[.pointer (some ⟨R, oo, none⟩), .int .i64 x.to, .int .i64 x.id] w fun e w' => DoP R oo XX vo (.map none) o x n w e w' := by
  have hE0 : Plain.leE o x = 0 := by
    unfold Plain.leE
    rw [if_neg (by omega), if_neg (by omega), if_neg (by omega), if_neg (by rw [h.len]; exact hyes), if_neg (by rw [h.at' (by omega)]; simpa using hto), if_neg (by rw [hold]; decide)]
  obtain ⟨WA, hWA⟩ : ∃ WA, WA = w.alloc zeroD := ⟨_, rfl⟩
  have rG := hid (show WA.rowIs w.heap.size 44 4 (odF ⟨⟨0, 0, 0, []⟩, none, 0⟩) by rw [hWA]; exact rowD_new w ⟨⟨0, 0, 0, []⟩, none, 0⟩)
  have BA := hid (show Below w.heap.size w WA by rw [hWA]; exact (Below.refl _ _).alloc (Nat.le_refl _) _)
  have KT := fun W => party_t ht W
  have KS := seen_c R oo n XX vo (.map none) P o (by omega) x.id WA (h.grow BA.out)
  obtain ⟨k, hxi⟩ : ∃ k : Nat, x.id = k := ⟨x.id.toNat, by omega⟩
  have hkl : k < P.length := by omega
  have hat := h.at' hkl
  have hgk := hgo.at (k := k) (by rw [h.len]; exact hkl)
  rw [show Plain.seenE o x.id = 0 by unfold Plain.seenE; rw [h.len, if_neg hyes], show Plain.seenV o x.id = ⟨k, (P.getD k default).y.frm, (P.getD k default).y.to, (P.getD k default).y.data.length⟩ by unfold Plain.seenV; rw [h.len, if_neg hyes, hxi, show ((k : Nat) : Int).toNat = k by omega, hat]] at KS
  have HS := hid (show Plain.leS o x = { o with opened := o.opened ++ [k] } by unfold Plain.leS; rw [hE0, if_neg (by decide), if_neg (by omega), hxi, show ((k : Nat) : Int).toNat = k by omega])
  have HT := hid (show Plain.leT o x = ⟨0, k, (P.getD k default).y.data.length, (P.getD k default).y.data⟩ by unfold Plain.leT; rw [hE0, if_neg (by decide), if_neg (by omega), hxi, show ((k : Nat) : Int).toNat = k by omega, hat])
  rw [hxi, show ((k : Nat) : Int).toNat = k by omega] at hto hold
  rw [hat] at hgk
  have hnx := Plain.old_next o k
  rw [hat, hold] at hnx
  have HOLD := hid hold
  have KO := fun W (g : Below w.heap.size w W) => isOld_c R oo n XX vo (.map none) P o ⟨k, (P.getD k default).y.frm, (P.getD k default).y.to, (P.getD k default).y.data.length⟩ hgk.1 hgk.2.1 W (h.grow g)
  rw [hxi] at KS ⊢
  have HH := hid h
  have HAT := hid hat
  have hRlt := h.row.lt
  have HOW := hid (fun (q : Nat) (hq : ownS vo (.map none) q) => h.own_lt hq)
  clear h hat hyes ht hold hE0
  obtain ⟨y, hy⟩ : ∃ y, y = P.getD k default := ⟨_, rfl⟩
  have HY := hid hy
  rw [← hy] at KS hto KO hnx hgk HAT HT
  clear hy
  obtain ⟨⟨yf, yt, yd⟩, yp, yc⟩ := y
  dsimp only at KS hto KO hnx hgk HAT HT
  subst hto
  obtain ⟨hrf, hrt, hrs⟩ := hgk
  obtain ⟨m, hm⟩ : ∃ m, m = yd.length := ⟨_, rfl⟩
  rw [← hm] at KS KO HT hrs
  have HM := hid hm
  clear hm
  have hg : (x.to != x.to) = false := by simp
  obtain ⟨nx, hnx'⟩ : ∃ nx, nx = Plain.nextF o yf x.to := ⟨_, rfl⟩
  rw [← hnx'] at KO hnx
  clear hnx'
  have hd : decide ((k : Int) < (nx : Int)) = false := by
    have := of_decide_eq_false hnx.symm
    exact decide_eq_false (by omega)
  rw [hd] at KO
  clear hnx hd
  obtain ⟨xt, hxt⟩ : ∃ xt, xt = x.to := ⟨_, rfl⟩
  rw [← hxt] at KT KS KO hg hrt HAT HY ⊢
  have HXT := hid hxt
  clear hxt
  go_enter Try.func25, Try.ntmps25
  go_wp2_with (first | (go_at_call 29; refine (KT _).mono ?_; rintro e w' ⟨rfl, rfl⟩) | fail)
  rw [← hWA]
  clear hWA KT
  refine KS.mono ?_
  rintro e WS ⟨rfl, bs⟩
  have rS := hid (rG.out.of_block (bs.block _ rG.out.lt))
  have BS := hid (BA.out.trans (bs.mono BA.out.size))
  clear KS bs rG BA
  obtain ⟨WB, hWB⟩ : ∃ WB, WB = WS.alloc (boxV ⟨k, yf, xt, m⟩) := ⟨_, rfl⟩
  have rB := hid (show WB.rowIs w.heap.size 44 4 (odF ⟨⟨0, 0, 0, []⟩, none, 0⟩) by rw [hWB]; exact rS.out.alloc _)
  have BB := hid (show Below w.heap.size w WB by rw [hWB]; exact BS.out.alloc BS.out.size _)
  have vB := hid (show WB.rowIs WS.heap.size 85 4 (evF ⟨k, yf, xt, m⟩) by rw [hWB]; exact rowV_new WS _)
  have KO2 := KO WB BB.out
  have hsW : w.heap.size < WS.heap.size := rS.out.lt
  clear KO rS BS
  go_wp2_with fail
  rw [← hWB]
  clear hWB
  refine KO2.mono ?_
  rintro e WC ⟨rfl, bc⟩
  have rC := hid (rB.out.of_block (bc.block _ rB.out.lt))
  have vC := hid (vB.out.of_block (bc.block _ vB.out.lt))
  have BC := hid (BB.out.trans (bc.mono BB.out.size))
  have OC := hid (HH.out.grow BC.out)
  clear KO2 bc rB BB vB
  have r1 := OC.out.c1
  have z1 := OC.out.row.frozen (oo + 1)
  have hmm : ∀ W : World, (Instr.makeMap 62 none).run Try.prog W = .ok (.map (some W.heap.size)) (W.alloc (.map #[] 0)) := fun W => run_makeMap 62 W
  have hRC : R < WC.heap.size := OC.out.row.lt
  have hRne : ¬ R = WC.heap.size := by omega
  obtain ⟨WD, hWD⟩ : ∃ WD, WD = (WC.alloc (.map #[] 0)).setCell ⟨R, oo + 1, none⟩ (.map (some WC.heap.size)) := ⟨_, rfl⟩
  have OD := hid (show OfI R oo XX WD vo (.map (some WC.heap.size)) P o n by rw [hWD]; exact OC.out.mapped)
  have KD := hid (show Kp (ownS vo (.map none)) R w WD by rw [hWD]; exact (Kp.of_below (BC.out.alloc BC.out.size _)).trans (Kp.setR _ _))
  have hneR : w.heap.size ≠ R ∧ WS.heap.size ≠ R := ⟨by omega, by omega⟩
  have rD := hid (show WD.rowIs w.heap.size 44 4 (odF ⟨⟨0, 0, 0, []⟩, none, 0⟩) by rw [hWD]; exact (rC.out.alloc _).setOther (a := ⟨R, oo + 1, none⟩) hneR.1 _)
  have vD := hid (show WD.rowIs WS.heap.size 85 4 (evF ⟨k, yf, xt, m⟩) by rw [hWD]; exact (vC.out.alloc _).setOther (a := ⟨R, oo + 1, none⟩) hneR.2 _)
  have NM := hid (show w.heap.size ≤ WC.heap.size from BC.out.size)
  obtain ⟨M, hM⟩ : ∃ M, M = WC.heap.size := ⟨_, rfl⟩
  rw [← hM] at OD NM
  have HMne := hid (show w.heap.size ≠ M ∧ WS.heap.size ≠ M from ⟨by have := rC.out.lt; omega, by have := vC.out.lt; omega⟩)
  clear rC vC BC OC
  have heq := eql_map_nil WC none
  go_upto_region 12 with fail
  have eW : (WC.setCell ⟨R, oo + 1, none⟩ (.map (some WC.heap.size))).alloc (.map #[] 0) = WD := by rw [hWD]; exact (World.setCell_alloc_past (w := WC) (.map #[] 0) R (oo + 1) _ hRC).symm
  rw [eW, ← hM]
  have HMR := hid (show M ≠ R by omega)
  have NM := hid (fun q (hq : q = M) => show ownS vo (.map none) q ∨ w.heap.size ≤ q from .inr (by rw [hq]; exact NM.out))
  clear eW hWD hM hmm heq r1 z1 hRC hRne
  have mixed : Try.prog.follows .mixedOrders = true := by kernel_rfl
  have e0 : WD.drew.cell? ⟨WS.heap.size, 0, none⟩ = some (.int .i64 k) := vD.out.cell (i := 0) (by omega)
  have e1 : WD.drew.cell? ⟨WS.heap.size, 1, none⟩ = some (.int .i64 yf) := vD.out.cell (i := 1) (by omega)
  have e2 : WD.drew.cell? ⟨WS.heap.size, 2, none⟩ = some (.int .i64 xt) := vD.out.cell (i := 2) (by omega)
  have e3 : WD.drew.cell? ⟨WS.heap.size, 3, none⟩ = some (.int .i64 m) := vD.out.cell (i := 3) (by omega)
  have r1D : WD.drew.cell? ⟨R, oo + 1, none⟩ = some (.map (some M)) := OD.out.c1
  have KW := way_c ⟨k, yf, xt, m⟩ WD.drew
  have HX := hid (fun W (g : Below WD.drew.heap.size WD.drew W) => show W.cell? ⟨R, oo + 1, none⟩ = some (.map (some M)) ∧ W.cell? ⟨WS.heap.size, 0, none⟩ = some (.int .i64 k) ∧ W.cell? ⟨WS.heap.size, 1, none⟩ = some (.int .i64 yf) ∧ W.cell? ⟨WS.heap.size, 2, none⟩ = some (.int .i64 xt) ∧ W.cell? ⟨WS.heap.size, 3, none⟩ = some (.int .i64 m) by
    have hlt : WS.heap.size < WD.drew.heap.size := vD.out.lt
    exact ⟨((OD.out.drewN 1).grow g).c1, (g.cell (p := ⟨WS.heap.size, 0, none⟩) hlt).trans e0, (g.cell (p := ⟨WS.heap.size, 1, none⟩) hlt).trans e1, (g.cell (p := ⟨WS.heap.size, 2, none⟩) hlt).trans e2, (g.cell (p := ⟨WS.heap.size, 3, none⟩) hlt).trans e3⟩)
  have HP := hid (fun W (g : Below WD.drew.heap.size WD.drew W) => show ∃ WE, (Instr.mapUpdate 62 (.map (some M)) (keyV yf xt) (.int .i64 (IntKind.i64.wrap ((k : Int) + 1)))).run Try.prog W = .ok () WE ∧ MapI WE M (n + 1) (fun a b => if yf = a ∧ xt = b then k + 1 else Plain.nextF o a b) ∧ W.grownBy WE (some M) by
    rcases ((OD.out.drewN 1).grow g).mp with ⟨e, _⟩ | ⟨M', e, hmp⟩
    · cases e
    · injection e with e
      injection e with e
      subst e
      obtain ⟨WE, h1, h2, h3⟩ := hmp.put (by omega) hrf hrt (k + 1) (by omega)
      rw [show (((k + 1 : Nat)) : Int) = IntKind.i64.wrap ((k : Int) + 1) by rw [IntKind.wrap_i64]; omega] at h1
      exact ⟨WE, h1, h2, h3⟩)
  obtain ⟨J, hJ⟩ : ∃ J, J = IntKind.i64.wrap ((k : Int) + 1) := ⟨_, rfl⟩
  have hJw : IntKind.i64.wrap ((k : Int) + 1) = J := hJ.symm
  rw [← hJ] at HP
  clear hJ
  go_region_held3 (fun w' => w'.cell? ⟨R, oo + 1, none⟩ = some (.map (some M)) ∧ w'.cell? ⟨WS.heap.size, 0, none⟩ = some (.int .i64 k) ∧ w'.cell? ⟨WS.heap.size, 1, none⟩ = some (.int .i64 yf) ∧ w'.cell? ⟨WS.heap.size, 2, none⟩ = some (.int .i64 xt) ∧ w'.cell? ⟨WS.heap.size, 3, none⟩ = some (.int .i64 m)) (first | exact SE.out | go_keep)
    ((go_at_call 33; refine KW.mono ?_; rintro e W5 ⟨rfl, b5⟩; have B5 := hid b5; clear b5; obtain ⟨r15, x05, x15, x25, x35⟩ := HX.out W5 B5.out; obtain ⟨WE, hrun, hmE, hgE⟩ := HP.out W5 B5.out; have ME := hid hmE; have GE := hid hgE; clear hmE hgE; have SE := hid (show WE.cell? ⟨R, oo + 1, none⟩ = some (.map (some M)) ∧ WE.cell? ⟨WS.heap.size, 0, none⟩ = some (.int .i64 k) ∧ WE.cell? ⟨WS.heap.size, 1, none⟩ = some (.int .i64 yf) ∧ WE.cell? ⟨WS.heap.size, 2, none⟩ = some (.int .i64 xt) ∧ WE.cell? ⟨WS.heap.size, 3, none⟩ = some (.int .i64 m) by
        have k1 := GE.out.block R (World.block_lt_of_cell? (w := W5) (h := r15)) (fun e => HMR.out (by injection e with e; exact e.symm))
        have k2 := GE.out.block WS.heap.size (World.block_lt_of_cell? (w := W5) (h := x05)) (fun e => HMne.out.2 (by injection e))
        simp only [World.cell?] at r15 x05 x15 x25 x35 ⊢
        rw [k1, k2]
        exact ⟨r15, x05, x15, x25, x35⟩)))
  all_goals
    have BDE := hid (show Below WD.heap.size WD W5 from (below_drewN (Below.refl _ _) 1).trans B5.out)
    have O5 := hid (OD.out.grow BDE.out)
    have OE := hid (O5.out.opened HOLD.out (by rw [HAT.out]) (by rw [HAT.out]) ME.out GE.out)
    have rE := hid (show WE.rowIs w.heap.size 44 4 (odF ⟨⟨0, 0, 0, []⟩, none, 0⟩) from (rD.out.of_block (BDE.out.block _ rD.out.lt)).of_block (GE.out.block _ (Nat.lt_of_lt_of_le rD.out.lt BDE.out.size) (fun e => HMne.out.1 (by injection e))))
    have KE := hid (show Kp (ownS vo (.map none)) R w WE from (KD.out.trans (Kp.of_below BDE.out)).and_then (Kp.grown1 (ZZ := fun q => q = M) rfl GE.out) (fun q hq => NM.out q hq))
    obtain ⟨s0, s1, s2, s3, s4⟩ := SE.out
    clear SE hrun r15 x05 x15 x25 x35 s0 s1 s2 s3 ME GE B5 BDE O5 KW HX HP
    have r0 := OE.out.c0
    obtain ⟨po, co, evo, hff⟩ := OE.out.form
    obtain ⟨gb, egb, hgl, hcc⟩ := hff (by omega)
    obtain ⟨_, _, c2⟩ := hcc k hkl
    rw [← HY.out] at c2
    dsimp only at c2
    rw [evo, egb] at r0
    have HEV := hid evo
    have HGB := hid egb
    rw [← HM.out] at c2
    have hgbn : gb ≠ w.heap.size := fun e => by
      have hq : ownS vo (.map none) gb := .inl (by rw [evo, egb]; rfl)
      have := HOW.out gb hq
      omega
    clear hff hcc evo egb
    have hkz : (k : Int) < (P.length : Int) := by omega
    have hk0 : ¬ (k : Int) < 0 := by omega
    have HLN := hid hkl
    obtain ⟨np, hnp⟩ : ∃ np, np = P.length := ⟨_, rfl⟩
    rw [← hnp] at r0 hkz HEV
    clear hnp hkl
    have hRn : ¬ R = w.heap.size := by omega
    have hRm : ¬ w.heap.size = R := by omega
    have hgbm : ¬ w.heap.size = gb := fun e => hgbn e.symm
    have hsn : ¬ WS.heap.size = w.heap.size := by omega
    have hsm : ¬ w.heap.size = WS.heap.size := by omega
    have y0 := rE.out.cell (i := 0) (by omega)
    have y1 := rE.out.cell (i := 1) (by omega)
    have y2 := rE.out.cell (i := 2) (by omega)
    have y3 := rE.out.cell (i := 3) (by omega)
    have z0 := rE.out.frozen 0
    have z1 := rE.out.frozen 1
    have z2 := rE.out.frozen 2
    have z3 := rE.out.frozen 3
    go_wp2
    go_region_held3 (fun w' => w'.cell? ⟨R, oo, none⟩ = some (.slice (some ⟨gb, 0, none⟩) np co) ∧ w'.cell? ⟨WS.heap.size, 3, none⟩ = some (.int .i64 m) ∧ w'.cell? ⟨gb, k * 3 + 2, none⟩ = some (.slice yp m yc)) (go_keep) (fail)
    all_goals
      go_wp2
      (try simp only [Exit.inBlock, Exit.then])
      obtain ⟨W6, hW6⟩ : ∃ W6, W6 = (((WE.setCell ⟨w.heap.size, 0, none⟩ (.int .i64 0)).setCell ⟨w.heap.size, 1, none⟩ (.int .i64 k)).setCell ⟨w.heap.size, 2, none⟩ (.int .i64 m)).setCell ⟨w.heap.size, 3, none⟩ (.slice yp m yc) := ⟨_, rfl⟩
      rw [← hW6]
      have hm := HM.out
      subst hm
      have e6 : Only1 w.heap.size WE W6 := by rw [hW6]; exact putD_only WE w.heap.size 0 ⟨⟨0, k, yd.length, yd⟩, yp, yc⟩
      have R6 : W6.drew.rowIs w.heap.size 44 4 (odF ⟨⟨0, k, yd.length, yd⟩, yp, yc⟩) := by rw [hW6]; exact (putD_row rE.out ⟨⟨0, k, yd.length, yd⟩, yp, yc⟩).of_block rfl
      clear hW6
      have OD6 := (e6.off OE.out rE.out (by decide) (by decide) hRm).drewN 1
      have K6 := (e6.kp KE.out (Nat.le_refl _)).trans (Kp.of_below (below_drewN (Below.refl _ _) 1))
      have hmem : (⟨⟨yf, xt, yd⟩, yp, yc⟩ : RP) ∈ P := by rw [HY.out]; exact getD_mem P default HLN.out
      have Y6 := OD6.bs _ hmem
      refine bodyPost_D rfl w.heap.size ⟨⟨0, k, yd.length, yd⟩, yp, yc⟩ rfl R6 rfl ⟨⟨⟨0, k, yd.length, yd⟩, yp, yc⟩, vo, .map (some M), P, rfl, HT.out.symm, ?_, K6, Y6, fun q hq => ?_⟩
      · rw [HS.out]; exact OD6
      · rcases hq with e | e
        · exact .inl (.inl e)
        · exact NM.out q (by injection e with e; injection e with e; exact e.symm)

set_option maxHeartbeats 4000000 in
set_option maxRecDepth 100000 in
theorem open_yes_map (R oo n : Nat) (XX : Win) (vo : Value) (M0 : Nat) (P : List RP) (o : Plain.Off) (hb : P.length ≤ 90000) (hn : n ≤ 90000) (x : Plain.Le) (hk : x.kind = 2) (hgo : Plain.Good o) (ht : 0 ≤ x.to ∧ x.to ≤ 8) (hyes : ¬ (x.id < 0 ∨ (P.length : Int) ≤ x.id)) (hto : (P.getD x.id.toNat default).y.to = x.to) (hold : Plain.oldO o x.id.toNat = false)
    (w : World) (h : OfI R oo XX w vo (.map (some M0)) P o n) :
    Calls Try.prog 25 #[.pointer (some ⟨R, oo, none⟩), .int .i64 x.to, .int .i64 x.id] w fun e w' => DoP R oo XX vo (.map (some M0)) o x n w e w' := by
  have hE0 : Plain.leE o x = 0 := by
    unfold Plain.leE
    rw [if_neg (by omega), if_neg (by omega), if_neg (by omega), if_neg (by rw [h.len]; exact hyes), if_neg (by rw [h.at' (by omega)]; simpa using hto), if_neg (by rw [hold]; decide)]
  obtain ⟨WA, hWA⟩ : ∃ WA, WA = w.alloc zeroD := ⟨_, rfl⟩
  have rG := hid (show WA.rowIs w.heap.size 44 4 (odF ⟨⟨0, 0, 0, []⟩, none, 0⟩) by rw [hWA]; exact rowD_new w ⟨⟨0, 0, 0, []⟩, none, 0⟩)
  have BA := hid (show Below w.heap.size w WA by rw [hWA]; exact (Below.refl _ _).alloc (Nat.le_refl _) _)
  have KT := fun W => party_t ht W
  have KS := seen_c R oo n XX vo (.map (some M0)) P o (by omega) x.id WA (h.grow BA.out)
  obtain ⟨k, hxi⟩ : ∃ k : Nat, x.id = k := ⟨x.id.toNat, by omega⟩
  have hkl : k < P.length := by omega
  have hat := h.at' hkl
  have hgk := hgo.at (k := k) (by rw [h.len]; exact hkl)
  rw [show Plain.seenE o x.id = 0 by unfold Plain.seenE; rw [h.len, if_neg hyes], show Plain.seenV o x.id = ⟨k, (P.getD k default).y.frm, (P.getD k default).y.to, (P.getD k default).y.data.length⟩ by unfold Plain.seenV; rw [h.len, if_neg hyes, hxi, show ((k : Nat) : Int).toNat = k by omega, hat]] at KS
  have HS := hid (show Plain.leS o x = { o with opened := o.opened ++ [k] } by unfold Plain.leS; rw [hE0, if_neg (by decide), if_neg (by omega), hxi, show ((k : Nat) : Int).toNat = k by omega])
  have HT := hid (show Plain.leT o x = ⟨0, k, (P.getD k default).y.data.length, (P.getD k default).y.data⟩ by unfold Plain.leT; rw [hE0, if_neg (by decide), if_neg (by omega), hxi, show ((k : Nat) : Int).toNat = k by omega, hat])
  rw [hxi, show ((k : Nat) : Int).toNat = k by omega] at hto hold
  rw [hat] at hgk
  have hnx := Plain.old_next o k
  rw [hat, hold] at hnx
  have HOLD := hid hold
  have KO := fun W (g : Below w.heap.size w W) => isOld_c R oo n XX vo (.map (some M0)) P o ⟨k, (P.getD k default).y.frm, (P.getD k default).y.to, (P.getD k default).y.data.length⟩ hgk.1 hgk.2.1 W (h.grow g)
  rw [hxi] at KS ⊢
  have HH := hid h
  have HAT := hid hat
  have hRlt := h.row.lt
  have HOW := hid (fun (q : Nat) (hq : ownS vo (.map (some M0)) q) => h.own_lt hq)
  clear h hat hyes ht hold hE0
  obtain ⟨y, hy⟩ : ∃ y, y = P.getD k default := ⟨_, rfl⟩
  have HY := hid hy
  rw [← hy] at KS hto KO hnx hgk HAT HT
  clear hy
  obtain ⟨⟨yf, yt, yd⟩, yp, yc⟩ := y
  dsimp only at KS hto KO hnx hgk HAT HT
  subst hto
  obtain ⟨hrf, hrt, hrs⟩ := hgk
  obtain ⟨m, hm⟩ : ∃ m, m = yd.length := ⟨_, rfl⟩
  rw [← hm] at KS KO HT hrs
  have HM := hid hm
  clear hm
  have hg : (x.to != x.to) = false := by simp
  obtain ⟨nx, hnx'⟩ : ∃ nx, nx = Plain.nextF o yf x.to := ⟨_, rfl⟩
  rw [← hnx'] at KO hnx
  clear hnx'
  have hd : decide ((k : Int) < (nx : Int)) = false := by
    have := of_decide_eq_false hnx.symm
    exact decide_eq_false (by omega)
  rw [hd] at KO
  clear hnx hd
  obtain ⟨xt, hxt⟩ : ∃ xt, xt = x.to := ⟨_, rfl⟩
  rw [← hxt] at KT KS KO hg hrt HAT HY ⊢
  have HXT := hid hxt
  clear hxt
  go_enter Try.func25, Try.ntmps25
  go_wp2_with (first | (go_at_call 29; refine (KT _).mono ?_; rintro e w' ⟨rfl, rfl⟩) | fail)
  rw [← hWA]
  clear hWA KT
  refine KS.mono ?_
  rintro e WS ⟨rfl, bs⟩
  have rS := hid (rG.out.of_block (bs.block _ rG.out.lt))
  have BS := hid (BA.out.trans (bs.mono BA.out.size))
  clear KS bs rG BA
  obtain ⟨WB, hWB⟩ : ∃ WB, WB = WS.alloc (boxV ⟨k, yf, xt, m⟩) := ⟨_, rfl⟩
  have rB := hid (show WB.rowIs w.heap.size 44 4 (odF ⟨⟨0, 0, 0, []⟩, none, 0⟩) by rw [hWB]; exact rS.out.alloc _)
  have BB := hid (show Below w.heap.size w WB by rw [hWB]; exact BS.out.alloc BS.out.size _)
  have vB := hid (show WB.rowIs WS.heap.size 85 4 (evF ⟨k, yf, xt, m⟩) by rw [hWB]; exact rowV_new WS _)
  have KO2 := KO WB BB.out
  have hsW : w.heap.size < WS.heap.size := rS.out.lt
  clear KO rS BS
  go_wp2_with fail
  rw [← hWB]
  clear hWB
  refine KO2.mono ?_
  rintro e WC ⟨rfl, bc⟩
  have rC := hid (rB.out.of_block (bc.block _ rB.out.lt))
  have vC := hid (vB.out.of_block (bc.block _ vB.out.lt))
  have BC := hid (BB.out.trans (bc.mono BB.out.size))
  have OC := hid (HH.out.grow BC.out)
  clear KO2 bc rB BB vB
  have r1 := OC.out.c1
  have z1 := OC.out.row.frozen (oo + 1)
  have HMR := hid (show M0 ≠ R from fun e => OC.out.nown (.inr (by rw [e])))
  obtain ⟨WD, hWD⟩ : ∃ WD, WD = WC := ⟨_, rfl⟩
  rw [← hWD] at OC BC rC vC
  have OD := OC
  have KD := hid (show Kp (ownS vo (.map (some M0))) R w WD from Kp.of_below BC.out)
  have rD := rC
  have vD := vC
  have hM0 := HOW.out M0 (.inr rfl)
  have HMne := hid (show w.heap.size ≠ M0 ∧ WS.heap.size ≠ M0 from ⟨by omega, by omega⟩)
  have NM := hid (fun q (hq : q = M0) => show ownS vo (.map (some M0)) q ∨ w.heap.size ≤ q from .inl (.inr (by rw [hq])))
  have heq := eql_map_nil WC (some M0)
  clear rC vC BC OC
  go_upto_region 12 with fail
  rw [← hWD]
  clear hWD heq r1 z1 hM0
  have mixed : Try.prog.follows .mixedOrders = true := by kernel_rfl
  have e0 : WD.drew.cell? ⟨WS.heap.size, 0, none⟩ = some (.int .i64 k) := vD.out.cell (i := 0) (by omega)
  have e1 : WD.drew.cell? ⟨WS.heap.size, 1, none⟩ = some (.int .i64 yf) := vD.out.cell (i := 1) (by omega)
  have e2 : WD.drew.cell? ⟨WS.heap.size, 2, none⟩ = some (.int .i64 xt) := vD.out.cell (i := 2) (by omega)
  have e3 : WD.drew.cell? ⟨WS.heap.size, 3, none⟩ = some (.int .i64 m) := vD.out.cell (i := 3) (by omega)
  have r1D : WD.drew.cell? ⟨R, oo + 1, none⟩ = some (.map (some M0)) := OD.out.c1
  have KW := way_c ⟨k, yf, xt, m⟩ WD.drew
  have HX := hid (fun W (g : Below WD.drew.heap.size WD.drew W) => show W.cell? ⟨R, oo + 1, none⟩ = some (.map (some M0)) ∧ W.cell? ⟨WS.heap.size, 0, none⟩ = some (.int .i64 k) ∧ W.cell? ⟨WS.heap.size, 1, none⟩ = some (.int .i64 yf) ∧ W.cell? ⟨WS.heap.size, 2, none⟩ = some (.int .i64 xt) ∧ W.cell? ⟨WS.heap.size, 3, none⟩ = some (.int .i64 m) by
    have hlt : WS.heap.size < WD.drew.heap.size := vD.out.lt
    exact ⟨((OD.out.drewN 1).grow g).c1, (g.cell (p := ⟨WS.heap.size, 0, none⟩) hlt).trans e0, (g.cell (p := ⟨WS.heap.size, 1, none⟩) hlt).trans e1, (g.cell (p := ⟨WS.heap.size, 2, none⟩) hlt).trans e2, (g.cell (p := ⟨WS.heap.size, 3, none⟩) hlt).trans e3⟩)
  have HP := hid (fun W (g : Below WD.drew.heap.size WD.drew W) => show ∃ WE, (Instr.mapUpdate 62 (.map (some M0)) (keyV yf xt) (.int .i64 (IntKind.i64.wrap ((k : Int) + 1)))).run Try.prog W = .ok () WE ∧ MapI WE M0 (n + 1) (fun a b => if yf = a ∧ xt = b then k + 1 else Plain.nextF o a b) ∧ W.grownBy WE (some M0) by
    rcases ((OD.out.drewN 1).grow g).mp with ⟨e, _⟩ | ⟨M', e, hmp⟩
    · cases e
    · injection e with e
      injection e with e
      subst e
      obtain ⟨WE, h1, h2, h3⟩ := hmp.put (by omega) hrf hrt (k + 1) (by omega)
      rw [show (((k + 1 : Nat)) : Int) = IntKind.i64.wrap ((k : Int) + 1) by rw [IntKind.wrap_i64]; omega] at h1
      exact ⟨WE, h1, h2, h3⟩)
  obtain ⟨J, hJ⟩ : ∃ J, J = IntKind.i64.wrap ((k : Int) + 1) := ⟨_, rfl⟩
  have hJw : IntKind.i64.wrap ((k : Int) + 1) = J := hJ.symm
  rw [← hJ] at HP
  clear hJ
  go_region_held3 (fun w' => w'.cell? ⟨R, oo + 1, none⟩ = some (.map (some M0)) ∧ w'.cell? ⟨WS.heap.size, 0, none⟩ = some (.int .i64 k) ∧ w'.cell? ⟨WS.heap.size, 1, none⟩ = some (.int .i64 yf) ∧ w'.cell? ⟨WS.heap.size, 2, none⟩ = some (.int .i64 xt) ∧ w'.cell? ⟨WS.heap.size, 3, none⟩ = some (.int .i64 m)) (first | exact SE.out | go_keep)
    ((go_at_call 33; refine KW.mono ?_; rintro e W5 ⟨rfl, b5⟩; have B5 := hid b5; clear b5; obtain ⟨r15, x05, x15, x25, x35⟩ := HX.out W5 B5.out; obtain ⟨WE, hrun, hmE, hgE⟩ := HP.out W5 B5.out; have ME := hid hmE; have GE := hid hgE; clear hmE hgE; have SE := hid (show WE.cell? ⟨R, oo + 1, none⟩ = some (.map (some M0)) ∧ WE.cell? ⟨WS.heap.size, 0, none⟩ = some (.int .i64 k) ∧ WE.cell? ⟨WS.heap.size, 1, none⟩ = some (.int .i64 yf) ∧ WE.cell? ⟨WS.heap.size, 2, none⟩ = some (.int .i64 xt) ∧ WE.cell? ⟨WS.heap.size, 3, none⟩ = some (.int .i64 m) by
        have k1 := GE.out.block R (World.block_lt_of_cell? (w := W5) (h := r15)) (fun e => HMR.out (by injection e with e; exact e.symm))
        have k2 := GE.out.block WS.heap.size (World.block_lt_of_cell? (w := W5) (h := x05)) (fun e => HMne.out.2 (by injection e))
        simp only [World.cell?] at r15 x05 x15 x25 x35 ⊢
        rw [k1, k2]
        exact ⟨r15, x05, x15, x25, x35⟩)))
  all_goals
    have BDE := hid (show Below WD.heap.size WD W5 from (below_drewN (Below.refl _ _) 1).trans B5.out)
    have O5 := hid (OD.out.grow BDE.out)
    have OE := hid (O5.out.opened HOLD.out (by rw [HAT.out]) (by rw [HAT.out]) ME.out GE.out)
    have rE := hid (show WE.rowIs w.heap.size 44 4 (odF ⟨⟨0, 0, 0, []⟩, none, 0⟩) from (rD.out.of_block (BDE.out.block _ rD.out.lt)).of_block (GE.out.block _ (Nat.lt_of_lt_of_le rD.out.lt BDE.out.size) (fun e => HMne.out.1 (by injection e))))
    have KE := hid (show Kp (ownS vo (.map (some M0))) R w WE from (KD.out.trans (Kp.of_below BDE.out)).and_then (Kp.grown1 (ZZ := fun q => q = M0) rfl GE.out) (fun q hq => NM.out q hq))
    obtain ⟨s0, s1, s2, s3, s4⟩ := SE.out
    clear SE hrun r15 x05 x15 x25 x35 s0 s1 s2 s3 ME GE B5 BDE O5 KW HX HP
    have r0 := OE.out.c0
    obtain ⟨po, co, evo, hff⟩ := OE.out.form
    obtain ⟨gb, egb, hgl, hcc⟩ := hff (by omega)
    obtain ⟨_, _, c2⟩ := hcc k hkl
    rw [← HY.out] at c2
    dsimp only at c2
    rw [evo, egb] at r0
    have HEV := hid evo
    have HGB := hid egb
    rw [← HM.out] at c2
    have hgbn : gb ≠ w.heap.size := fun e => by
      have hq : ownS vo (.map (some M0)) gb := .inl (by rw [evo, egb]; rfl)
      have := HOW.out gb hq
      omega
    clear hff hcc evo egb
    have hkz : (k : Int) < (P.length : Int) := by omega
    have hk0 : ¬ (k : Int) < 0 := by omega
    have HLN := hid hkl
    obtain ⟨np, hnp⟩ : ∃ np, np = P.length := ⟨_, rfl⟩
    rw [← hnp] at r0 hkz HEV
    clear hnp hkl
    have hRn : ¬ R = w.heap.size := by omega
    have hRm : ¬ w.heap.size = R := by omega
    have hgbm : ¬ w.heap.size = gb := fun e => hgbn e.symm
    have hsn : ¬ WS.heap.size = w.heap.size := by omega
    have hsm : ¬ w.heap.size = WS.heap.size := by omega
    have y0 := rE.out.cell (i := 0) (by omega)
    have y1 := rE.out.cell (i := 1) (by omega)
    have y2 := rE.out.cell (i := 2) (by omega)
    have y3 := rE.out.cell (i := 3) (by omega)
    have z0 := rE.out.frozen 0
    have z1 := rE.out.frozen 1
    have z2 := rE.out.frozen 2
    have z3 := rE.out.frozen 3
    go_wp2
    go_region_held3 (fun w' => w'.cell? ⟨R, oo, none⟩ = some (.slice (some ⟨gb, 0, none⟩) np co) ∧ w'.cell? ⟨WS.heap.size, 3, none⟩ = some (.int .i64 m) ∧ w'.cell? ⟨gb, k * 3 + 2, none⟩ = some (.slice yp m yc)) (go_keep) (fail)
    all_goals
      go_wp2
      (try simp only [Exit.inBlock, Exit.then])
      obtain ⟨W6, hW6⟩ : ∃ W6, W6 = (((WE.setCell ⟨w.heap.size, 0, none⟩ (.int .i64 0)).setCell ⟨w.heap.size, 1, none⟩ (.int .i64 k)).setCell ⟨w.heap.size, 2, none⟩ (.int .i64 m)).setCell ⟨w.heap.size, 3, none⟩ (.slice yp m yc) := ⟨_, rfl⟩
      rw [← hW6]
      have hm := HM.out
      subst hm
      have e6 : Only1 w.heap.size WE W6 := by rw [hW6]; exact putD_only WE w.heap.size 0 ⟨⟨0, k, yd.length, yd⟩, yp, yc⟩
      have R6 : W6.drew.rowIs w.heap.size 44 4 (odF ⟨⟨0, k, yd.length, yd⟩, yp, yc⟩) := by rw [hW6]; exact (putD_row rE.out ⟨⟨0, k, yd.length, yd⟩, yp, yc⟩).of_block rfl
      clear hW6
      have OD6 := (e6.off OE.out rE.out (by decide) (by decide) hRm).drewN 1
      have K6 := (e6.kp KE.out (Nat.le_refl _)).trans (Kp.of_below (below_drewN (Below.refl _ _) 1))
      have hmem : (⟨⟨yf, xt, yd⟩, yp, yc⟩ : RP) ∈ P := by rw [HY.out]; exact getD_mem P default HLN.out
      have Y6 := OD6.bs _ hmem
      refine bodyPost_D rfl w.heap.size ⟨⟨0, k, yd.length, yd⟩, yp, yc⟩ rfl R6 rfl ⟨⟨⟨0, k, yd.length, yd⟩, yp, yc⟩, vo, .map (some M0), P, rfl, HT.out.symm, ?_, K6, Y6, fun q hq => ?_⟩
      · rw [HS.out]; exact OD6
      · rcases hq with e | e
        · exact .inl (.inl e)
        · exact NM.out q (by injection e with e; injection e with e; exact e.symm)

/-- Open, whatever it is. -/
theorem open_c (R oo n : Nat) (XX : Win) (vo vm : Value) (P : List RP) (o : Plain.Off) (hgo : Plain.Good o) (hb : P.length ≤ 90000) (hn : n ≤ 90000) (x : Plain.Le) (hk : x.kind = 2) (w : World) (h : OfI R oo XX w vo vm P o n) :
    Calls Try.prog 25 #[.pointer (some ⟨R, oo, none⟩), .int .i64 x.to, .int .i64 x.id] w fun e w' => DoP R oo XX vo vm o x n w e w' := by
  by_cases ht : x.to < 0 ∨ 8 < x.to
  · exact open_to R oo n XX vo vm P o (by omega) x hk ht w h
  by_cases hno : x.id < 0 ∨ (P.length : Int) ≤ x.id
  · exact open_none R oo n XX vo vm P o (by omega) x hk (by omega) hno w h
  by_cases hto : (P.getD x.id.toNat default).y.to = x.to
  · cases hold : Plain.oldO o x.id.toNat with
    | true => exact open_old R oo n XX vo vm P o (by omega) x hk hgo (by omega) hno hto hold w h
    | false =>
      rcases h.mp with ⟨rfl, _⟩ | ⟨M0, rfl, _⟩
      · exact open_yes_nil R oo n XX vo P o hb hn x hk hgo (by omega) hno hto hold w h
      · exact open_yes_map R oo n XX vo M0 P o hb hn x hk hgo (by omega) hno hto hold w h
  · exact open_denied R oo n XX vo vm P o (by omega) x hk hgo (by omega) hno hto w h
end Go.Proofs.Ytiolkeghgodggai.Se
