/-
  A contract of tally.Do.
-/
import Derived.Test.YtcdlgpickjiikagTch
namespace Go.Proofs.Ytcdlgpickjiikag
open Go.RowKit Go.Sort

theorem RowI.cell2 {w : World} {b : Nat} {l : List Int} (h : RowI w b l) {i : Nat} (hi : i < l.length) : w.cell? ⟨b, i, none⟩ = some (.int .i64 (l.getD i 0)) := h.cell hi
theorem OwnT.deed {w : World} {B n b bu cu : Nat} {G C : Nat → Nat} {t : Plain.Ta} {d : Plain.De} (h : OwnT w B n b bu G C t) (ok : Plain.OkD t d) :
    ∃ g cg p : Nat, (if d.kind = 3 then .slice (some ⟨bu, 0, none⟩) n cu else .slice (some ⟨G d.who.toNat, 0, none⟩) n (C d.who.toNat)) = Value.slice (some ⟨g, 0, none⟩) n cg ∧ Plain.plD d = p ∧ p < n ∧
      w.cell? ⟨g, p, none⟩ = some (.int .i64 (Plain.cellD t d)) ∧ w.frozen? ⟨g, p, none⟩ = false ∧ (g = bu ∨ ∃ i, i < n ∧ g = G i) ∧ g < w.heap.size ∧
      OwnT (w.setCell ⟨g, p, none⟩ (.int .i64 (Plain.cellD t d + d.count))) B n b bu G C (Plain.doT t d) := by
  have lt := h.lt
  have w0 := ok.w0
  have w1 := ok.w1
  have p0 := ok.p0
  have p1 := ok.p1
  have hw : d.who.toNat < n := by omega
  have hp : (Plain.plD d).toNat < n := by omega
  by_cases h3 : d.kind = 3
  · have ep : Plain.plD d = d.who := by unfold Plain.plD; rw [if_neg (by rw [h3]; decide)]
    have ec : Plain.cellD t d = Plain.us t d.who.toNat := by unfold Plain.cellD; rw [if_pos h3]
    have ed : Plain.doT t d = ⟨t.moves, t.used.set d.who.toNat (Plain.us t d.who.toNat + d.count)⟩ := by unfold Plain.doT; rw [if_pos h3]
    refine ⟨bu, cu, d.who.toNat, by rw [if_pos h3], by rw [ep]; omega, hw, ?_, h.u.frozen _, .inl rfl, h.u.lt, ?_⟩
    · rw [ec]; exact h.u.cell (by omega)
    · rw [ec, ed]; exact h.setU _ hw _
  · have ec : Plain.cellD t d = Plain.mv t d.who.toNat (Plain.plD d).toNat := by unfold Plain.cellD; rw [if_neg h3]
    have ed : Plain.doT t d = ⟨t.moves.set d.who.toNat ((Plain.rw t d.who.toNat).set (Plain.plD d).toNat (Plain.mv t d.who.toNat (Plain.plD d).toNat + d.count)), t.used⟩ := by unfold Plain.doT; rw [if_neg h3]
    refine ⟨G d.who.toNat, C d.who.toNat, (Plain.plD d).toNat, by rw [if_neg h3], by omega, hp, ?_, (h.m _ hw).frozen _, .inr ⟨_, hw, rfl⟩, (h.m _ hw).lt, ?_⟩
    · rw [ec]; exact (h.m _ hw).cell (by rw [h.lr _ hw]; exact hp)
    · rw [ec, ed]; exact h.setM _ _ hw hp _
namespace Plain
theorem cellD_bd {t : Ta} {d : De} (ok : OkD t d) : 0 ≤ cellD t d ∧ cellD t d ≤ 1048576 := by
  have w0 := ok.w0
  have w1 := ok.w1
  have p0 := ok.p0
  have p1 := ok.p1
  unfold cellD
  split
  · exact ok.sq.bu _ (by omega)
  · exact ok.sq.bm _ _ (by omega) (by omega)
end Plain

/-- What lies there ahead of the deed's change. -/
structure DI (w0 w : World) (X Y R : Nat) (vm vu : Value) (t : Plain.Ta) (d : Plain.De) : Prop where
  sd : SD w0 w X Y vm vu t d
  res : Res w R (.slice none 0 0) (.slice none 0 0)
  r0 : w0.heap.size ≤ R
theorem DI.start {w : World} {vm vu : Value} {t : Plain.Ta} (h : HasT w vm vu t) (d : Plain.De) :
    DI w (((w.alloc (boxT vm vu)).alloc (boxD d)).alloc (.cells #[.slice none 0 0, .slice none 0 0] 25)) w.heap.size (w.heap.size + 1) (w.heap.size + 1 + 1) vm vu t d :=
  ⟨(SD.start h d).step ((Below.refl _ _).alloc (Nat.le_refl _) _), by
    have := Deep.blk_alloc_new ((w.alloc (boxT vm vu)).alloc (boxD d)) (.cells #[.slice none 0 0, .slice none 0 0] 25)
    simp only [World.size_alloc] at this
    exact this, by omega⟩
theorem DI.step {w0 w w' : World} {X Y R : Nat} {vm vu : Value} {t : Plain.Ta} {d : Plain.De} (h : DI w0 w X Y R vm vu t d) (g : Below w.heap.size w w') : DI w0 w' X Y R vm vu t d :=
  ⟨h.sd.step g, h.res.below g h.res.lt, h.r0⟩

set_option maxHeartbeats 1000000 in
theorem do_err (vm vu : Value) (t : Plain.Ta) (d : Plain.De) (w : World) (h : HasT w vm vu t) (E : Nat) (he : Plain.refE t d = E) (h0 : E ≠ 0) :
    Calls Try.prog 16 #[aggT vm vu, aggD d] w fun e w' => e = .returned (.tuple #[aggT (.slice none 0 0) (.slice none 0 0), .int .i64 (E : Nat)]) ∧ Below w.heap.size w w' := by
  have I0 := hid (DI.start h d)
  have HE := hid he
  clear h he
  have hb : ((E : Int) != 0) = true := bne_iff_ne.2 (by omega)
  go_enter Try.func16, Try.ntmps16
  go_wp2_with fail
  refine (refuse_c vm vu t d _ I0.out.sd.st.has).mono ?_
  rw [HE.out]
  rintro e w1 ⟨rfl, b1⟩
  have I1 := hid (I0.out.step b1)
  clear b1 I0
  have d0 := I1.out.res.c0
  have d1 := I1.out.res.c1
  have d2 := I1.out.res.frozen 0
  have d3 := I1.out.res.frozen 1
  have d4 := I1.out.res.lt
  go_wp2
  (try simp only [Exit.inBlock, Exit.then])
  refine bodyPost_ret (v := .tuple #[aggT (.slice none 0 0) (.slice none 0 0), .int .i64 (E : Nat)]) ?_ rfl ⟨rfl, below_res I1.out.sd.st.bel I1.out.r0⟩
  exact results_tally2 (p := 4) (u := 5) rfl _ _ (w.heap.size + 1 + 1) _ _ rfl (I1.out.res.set _ _)

/-- What lies there when the copy is made: the copy, its box, the deed, the result's cell. -/
structure DJ (w0 w : World) (B n b bu cm cu R Hb X Y : Nat) (G C : Nat → Nat) (vm vu : Value) (t0 t : Plain.Ta) (d : Plain.De) : Prop where
  di : DI w0 w X Y R vm vu t0 d
  own : OwnT w B n b bu G C t
  box : Res w Hb (.slice (some ⟨b, 0, none⟩) n cm) (.slice (some ⟨bu, 0, none⟩) n cu)
  lo : w0.heap.size ≤ B
  rB : R < B
  yB : Y < B
  hB : B ≤ Hb
  hu : bu < Hb
  hg : ∀ i, i < n → G i < Hb
theorem DJ.step {w0 w w' : World} {B n b bu cm cu R Hb X Y : Nat} {G C : Nat → Nat} {vm vu : Value} {t0 t : Plain.Ta} {d : Plain.De} (h : DJ w0 w B n b bu cm cu R Hb X Y G C vm vu t0 t d) (g : Below w.heap.size w w') : DJ w0 w' B n b bu cm cu R Hb X Y G C vm vu t0 t d :=
  ⟨h.di.step g, h.own.grow g, h.box.below g h.box.lt, h.lo, h.rB, h.yB, h.hB, h.hu, h.hg⟩

set_option maxHeartbeats 2000000 in
theorem do_ok (vm vu : Value) (t : Plain.Ta) (d : Plain.De) (w : World) (h : HasT w vm vu t) (he : Plain.refE t d = 0) :
    Calls Try.prog 16 #[aggT vm vu, aggD d] w fun e w' => ∃ x y, e = .returned (.tuple #[aggT x y, .int .i64 (Plain.doE t d : Nat)]) ∧ HasP (w.heap.size ≤ ·) w' x y (Plain.doV t d) ∧ Below w.heap.size w w' := by
  have I0 := hid (DI.start h d)
  have HE := hid he
  have OK := hid (Plain.refE_ok he)
  have bc := Plain.cellD_bd (Plain.refE_ok he)
  have bk := (Plain.refE_ok he).c1
  have bk0 := (Plain.refE_ok he).c0
  have HDE := hid (show Plain.doE t d = if 1048576 < Plain.cellD t d + d.count then 12 else 0 by unfold Plain.doE; rw [if_pos he])
  clear h he
  go_enter Try.func16, Try.ntmps16
  go_wp2_with fail
  refine (refuse_c vm vu t d _ I0.out.sd.st.has).mono ?_
  rw [HE.out]
  rintro e w1 ⟨rfl, b1⟩
  have I1 := hid (I0.out.step b1)
  clear b1 I0
  have x0 := I1.out.sd.st.x0
  have x1 := I1.out.sd.st.x1
  go_wp2_with fail
  refine (copied_c vm vu t _ OK.out.sq _ I1.out.sd.st.has).mono ?_
  rintro e w2 ⟨b, bu, cu, G, C, rfl, ow, b2⟩
  clear x0 x1
  generalize hn : t.used.length = n at *
  have J := hid (show DJ w (w2.alloc (boxT (.slice (some ⟨b, 0, none⟩) n n) (.slice (some ⟨bu, 0, none⟩) n cu))) w1.heap.size n b bu n cu (w.heap.size + 1 + 1) w2.heap.size w.heap.size (w.heap.size + 1) G C vm vu t t d from
    ⟨(I1.out.step b2).step ((Below.refl _ _).alloc (Nat.le_refl _) _), ow.grow ((Below.refl _ _).alloc (Nat.le_refl _) _), Deep.blk_alloc_new _ _, I1.out.sd.st.bel.size, I1.out.res.lt, I1.out.sd.lt, b2.size, ow.u.lt, fun i hi => (ow.m i hi).lt⟩)
  have N8 := hid ow.n8
  clear ow b2 I1
  have c0 := J.out.box.c0
  have c1 := J.out.box.c1
  obtain ⟨y0, y1, y2, y3⟩ := J.out.di.sd.d
  simp only [Nat.zero_add] at y1 y2 y3
  go_wp2_with fail
  refine (changes_c w1.heap.size n b bu n cu G C t d _ J.out.own OK.out.k OK.out.w0 (by have := OK.out.w1; omega)).mono ?_
  rintro e w4 ⟨rfl, b4⟩
  have J4 := hid (J.out.step b4)
  clear b4 J c0 c1 y0 y1 y2 y3
  obtain ⟨g, cg, p, er, ep, hp, cc, cf, hg1, hg2, ow⟩ := J4.out.own.deed (cu := cu) OK.out
  rw [er, ep]
  have OW := hid ow
  have HG := hid (show w1.heap.size ≤ g ∧ g < w2.heap.size by
    rcases hg1 with rfl | ⟨i, hi, rfl⟩
    · exact ⟨J4.out.own.Bu, J4.out.hu⟩
    · exact ⟨J4.out.own.Bg i hi, J4.out.hg i hi⟩)
  have HN := hid hn
  clear er ep ow hn hg1
  have hpz : (p : Int) < (n : Int) := by omega
  obtain ⟨y0, y1, y2, y3⟩ := J4.out.di.sd.d
  simp only [Nat.zero_add] at y1 y2 y3
  generalize hx : Plain.cellD t d = x at *
  have HX := hid hx
  generalize hk : d.count = k at *
  have HK := hid hk
  clear hx hk
  go_wp2
  go_region
  obtain ⟨W, hW⟩ : ∃ W, W = (w4.setCell ⟨g, p, none⟩ (.int .i64 (x + k))).drew := ⟨_, rfl⟩
  have gd : Below (w4.setCell ⟨g, p, none⟩ (.int .i64 (x + k))).heap.size (w4.setCell ⟨g, p, none⟩ (.int .i64 (x + k))) W := by rw [hW]; exact (Below.refl _ _).drew
  have bw : Below g w4 W := by rw [hW]; exact ((Below.refl g w4).setCell (p := ⟨g, p, none⟩) (Nat.le_refl _) _).drew
  have RS := hid (show Res W (w.heap.size + 1 + 1) (.slice none 0 0) (.slice none 0 0) from J4.out.di.res.below bw (by have := J4.out.rB; have := HG.out; omega))
  have BX := hid (show Res W w2.heap.size (.slice (some ⟨b, 0, none⟩) n n) (.slice (some ⟨bu, 0, none⟩) n cu) by
    rw [hW]
    have := J4.out.box.other (a := ⟨g, p, none⟩) (v := .int .i64 (x + k)) (by show w2.heap.size ≠ g; have := HG.out; omega)
    exact this)
  have OW2 := hid (OW.out.grow gd)
  have BL := hid (show Below w.heap.size w W from J4.out.di.sd.st.bel.trans (bw.mono (by have := J4.out.lo; have := HG.out; omega)))
  have LO := hid J4.out.lo
  have NB := hid (show w.heap.size + 1 + 1 ≠ b ∧ w.heap.size + 1 + 1 ≠ bu ∧ (∀ i, i < n → w.heap.size + 1 + 1 ≠ G i) from ⟨by have := J4.out.rB; have := J4.out.own.B0; omega, by have := J4.out.rB; have := J4.out.own.Bu; omega, fun i hi => by have := J4.out.rB; have := J4.out.own.Bg i hi; omega⟩)
  have cx : W.cell? ⟨g, p, none⟩ = some (.int .i64 (x + k)) := by
    rw [hW]
    simp
    exact World.cell?_setCell_same w4 _ _ cc
  rw [← hW]
  clear hW gd bw OW y0 y1 y2 y3 cc cf hg2 J4
  have d0 := RS.out.c0
  have d1 := RS.out.c1
  have d2 := RS.out.frozen 0
  have d3 := RS.out.frozen 1
  have d4 := RS.out.lt
  have d5 := BX.out.c0
  have d6 := BX.out.c1
  by_cases hov : 1048576 < x + k
  · have HD := hid (show Plain.doE t d = 12 by rw [HDE.out, if_pos hov])
    have HV := hid (show Plain.doV t d = ⟨[], []⟩ by unfold Plain.doV; rw [if_neg (by rw [HD.out]; omega)])
    go_wp2
    (try simp only [Exit.inBlock, Exit.then])
    refine bodyPost_ret (v := .tuple #[aggT (.slice none 0 0) (.slice none 0 0), .int .i64 12]) ?_ rfl ⟨_, _, by rw [HD.out]; rfl, by rw [HV.out]; exact HasP.nil _ _, below_res BL.out (by omega)⟩
    exact results_tally2 (p := 4) (u := 5) rfl _ _ (w.heap.size + 1 + 1) _ _ rfl (RS.out.set _ _)
  · have HD := hid (show Plain.doE t d = 0 by rw [HDE.out, if_neg hov])
    have HV := hid (show Plain.doV t d = Plain.doT t d by unfold Plain.doV; rw [if_pos HD.out])
    go_wp2
    (try simp only [Exit.inBlock, Exit.then])
    refine bodyPost_ret (v := .tuple #[aggT (.slice (some ⟨b, 0, none⟩) n n) (.slice (some ⟨bu, 0, none⟩) n cu), .int .i64 0]) ?_ rfl ⟨_, _, by rw [HD.out]; rfl, by rw [HV.out]; exact ((OW2.out.base LO.out).res _ _ NB.out.1 NB.out.2.1 NB.out.2.2).hasP _ _, below_res BL.out (by omega)⟩
    exact results_tally2 (p := 4) (u := 5) rfl _ _ (w.heap.size + 1 + 1) _ _ rfl (RS.out.set _ _)

/-- tally.Do, whatever it is handed. -/
theorem do_any (vm vu : Value) (t : Plain.Ta) (d : Plain.De) (w : World) (h : HasT w vm vu t) :
    Calls Try.prog 16 #[aggT vm vu, aggD d] w fun e w' => ∃ x y, e = .returned (.tuple #[aggT x y, .int .i64 (Plain.doE t d : Nat)]) ∧ HasP (w.heap.size ≤ ·) w' x y (Plain.doV t d) ∧ Below w.heap.size w w' := by
  by_cases he : Plain.refE t d = 0
  · exact do_ok vm vu t d w h he
  · have e1 : Plain.doE t d = Plain.refE t d := by unfold Plain.doE; rw [if_neg he]
    have e2 : Plain.doV t d = ⟨[], []⟩ := by unfold Plain.doV; rw [if_neg (by rw [e1]; exact he)]
    rw [e1, e2]
    exact (do_err vm vu t d w h _ rfl he).mono fun e w' ⟨h1, h2⟩ => ⟨_, _, h1, HasP.nil _ _, h2⟩
end Go.Proofs.Ytcdlgpickjiikag
