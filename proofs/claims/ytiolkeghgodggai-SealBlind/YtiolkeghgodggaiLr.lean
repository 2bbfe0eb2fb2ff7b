/-
  Letters: moves of mails.
-/
import Derived.Test.YtiolkeghgodggaiMl
import Derived.Test.YtiolkeghgodggaiPk
import Derived.Test.YtiolkeghgodggaiZ0
import Derived.Deep.RegionHeld3
import Derived.Deep.DeepCutAuto
import Derived.Deep.CutBlock
namespace Go.Proofs.Ytiolkeghgodggai.Se
open Go.RowKit Go.Shelf Go.Sort Go.Lib

theorem By.take {B : Nat} {w : World} {p : Option Addr} {c : Nat} {l : List Int} (h : By B w p c l) (k : Nat) : By B w p c (l.take k) := by
  refine ⟨by have := h.le; rw [List.length_take]; omega, h.cm, h.nl, fun h0 => ?_⟩
  rw [List.length_take] at h0
  obtain ⟨b, off, e, hb, hk, hc⟩ := h.cl (by omega)
  refine ⟨b, off, e, hb, hk, fun j hj => ?_⟩
  rw [List.length_take] at hj
  rw [hc j (by omega)]
  congr 2
  rw [List.getD_eq_getElem?_getD, List.getD_eq_getElem?_getD, List.getElem?_take, if_pos (by omega)]
/-- Moves in a row of the call's own. -/
structure LI (w W : World) (v : Value) (Rs : List RL) : Prop where
  ow : W.ownsRow w.heap.size 53 5 v Rs.length (encL.vals Rs)
  bs : ∀ r, r ∈ Rs → By w.heap.size W r.p r.c r.x.data
  be : Below w.heap.size w W
namespace LI
variable {w W W' : World} {v : Value} {Rs : List RL}
theorem nil (w : World) : LI w w (.slice none 0 0) [] := ⟨World.ownsRow_nil _ _ _ _, fun _ h => (nomatch h), Below.refl _ _⟩
theorem grow (h : LI w W v Rs) (g : Below W.heap.size W W') : LI w W' v Rs := ⟨owns_grow h.ow g, fun r hr => (h.bs r hr).grow g, h.be.trans (g.mono h.be.size)⟩
theorem snoc (h : LI w W v Rs) (hb : Rs.length ≤ 1000) (y : RL) (hy : By w.heap.size W y.p y.c y.x.data) :
    ∃ p c U, (Builtin.append_ #[38, 38] 38 #[v, .slice (some ⟨W.heap.size, 0, none⟩) 1 1]).run Try.prog (W.alloc (boxL y)) = .ok (.slice p (Rs.length + 1) c) U ∧ LI w U (.slice p (Rs.length + 1) c) (Rs ++ [y]) := by
  obtain ⟨j0, ji, jz0, jz1, jz2⟩ := info_parts Try.infoLe
  obtain ⟨p, c, U, h1, h2, h3⟩ := Enc.snoc (E := encL) Try.underlying38 ji jz0 jz1 jz2 rfl h.ow rfl hb (by omega) h.be.size y
  have bel : Below W.heap.size W (W.alloc (boxL y)) := (Below.refl _ _).alloc (Nat.le_refl _) _
  have k1 := h.grow bel
  have kb : Kb w.heap.size W U := (Kb.of_below bel).trans (Kb.grown k1.ow (by decide) h3)
  have hlen : (Rs ++ [y]).length = Rs.length + 1 := by simp
  refine ⟨p, c, U, h1, ⟨by rw [hlen]; exact h2, fun r hr => ?_, h.be.trans (kb.below h.be.size)⟩⟩
  rcases List.mem_append.1 hr with m | m
  · exact (h.bs r m).keep kb
  · have e : r = y := by simpa using m
    subst e
    exact hy.keep kb
/-- A store into a box of a move. -/
theorem only {G n : Nat} {f : Nat → Value} (h : LI w W v Rs) (e : Only1 G W W') (hr : W.rowIs G 53 n f) (hne : v.ownBlock ≠ some G) (hB : w.heap.size ≤ G) : LI w W' v Rs := by
  have kb := e.kb hr (by decide) hB
  exact ⟨owns_block h.ow fun b hb => e.block b (fun x => hne (by rw [hb, x])), fun r hr => (h.bs r hr).keep kb, e.below h.be hB⟩
theorem form (h : LI w W v Rs) : ∃ p c, v = .slice p Rs.length c ∧ (p = none → c = 0) ∧ Mv W p Rs := by
  obtain ⟨p, c, e, hh, hn, _⟩ := encL.owns h.ow rfl
  exact ⟨p, c, e, hn, ⟨hh, fun r hr => (h.bs r hr).top⟩⟩
end LI

def ltF (r : RL) (j : Nat) : Value := if j = 0 then .int .i64 r.x.kind else if j = 1 then .int .i64 r.x.frm else if j = 2 then .int .i64 r.x.to else if j = 3 then .int .i64 r.x.id else .slice r.p r.x.data.length r.c
theorem rowL_new (w : World) (r : RL) : (w.alloc (boxL r)).rowIs w.heap.size 53 5 (ltF r) := by
  refine World.rowIs_alloc _ _ 53 _ fun i hi => ?_
  have hi4 : i < 5 := hi
  have : i = 0 ∨ i = 1 ∨ i = 2 ∨ i = 3 ∨ i = 4 := by omega
  rcases this with rfl | rfl | rfl | rfl | rfl <;> rfl
theorem rowL_data {w : World} {G : Nat} {x : Plain.Le} {p0 : Option Addr} {c0 : Nat} (h : w.rowIs G 53 5 (ltF ⟨x, p0, c0⟩)) (p : Option Addr) (d : List Int) (c : Nat) : (w.setCell ⟨G, 4, none⟩ (.slice p d.length c)).rowIs G 53 5 (ltF ⟨{ x with data := d }, p, c⟩) := by
  refine (h.set 4 _).congr fun j hj => ?_
  have : j = 0 ∨ j = 1 ∨ j = 2 ∨ j = 3 ∨ j = 4 := by omega
  rcases this with rfl | rfl | rfl | rfl | rfl <;> rfl

set_option maxHeartbeats 8000000 in
set_option maxRecDepth 100000 in
theorem letters_c (p : Option Addr) (n cap : Nat) (R : List RM) (hbig : n ≤ 9223372036854775807) (w : World) (hn : R.length = n) (hp : Mm w p R) :
    Calls Try.prog 16 #[.slice p n cap, .int .i64 60] w fun e w' => ∃ q c Rs, e = .returned (.slice q (List.length Rs) c) ∧ Rs.map RL.x = Plain.lettersF (R.map RM.m) ∧ LI w w' (.slice q (List.length Rs) c) Rs := by
  have HP := hid hp
  have HN := hid hn
  clear hp hn
  go_enter Try.func16, Try.ntmps16
  go_wp2
  go_loopg [5, 6] n (fun gg s5 s6 wx => ∃ (k : Nat) (Rs : List RL) (q : Option Addr) (c : Nat), k ≤ n ∧ k ≤ 60 ∧ n - k ≤ gg ∧ s6 = .int .i64 k ∧ s5 = .slice q k c ∧ Aside (LI w wx (.slice q k c) Rs) ∧ Aside (Rs.length = k) ∧ Aside (Rs.map RL.x = Plain.lettersF ((R.map RM.m).take k)))
  case atStart => exact ⟨0, [], none, 0, Nat.zero_le _, Nat.zero_le _, by omega, rfl, rfl, (show Aside _ from LI.nil w), (show Aside _ from rfl), (show Aside _ from rfl)⟩
  case round =>
    obtain ⟨k, Rs, q, c, hkk, hk60, hg, rfl, rfl, A, AL, AR⟩ := hrel
    by_cases hlt : k < n
    · have hltz : (k : Int) < (n : Int) := by omega
      by_cases hlt6 : k < 60
      · have hlt6z : (k : Int) < 60 := by omega
        have hll : k < R.length := by rw [HN.out]; exact hlt
        have hlm : k < (R.map RM.m).length := by rw [List.length_map]; exact hll
        have HI := hid A.out
        have HL := hid AL.out
        have HR := hid AR.out
        clear A AL AR
        have HMv := HP.out.grow (show Below w.heap.size w wr from HI.out.be)
        obtain ⟨b, off, rfl, hb, hc⟩ := holdsM HMv.hd (by omega)
        obtain ⟨c0, c1, c2, c3, c4⟩ := hc k hll
        have hIn := (HP.out.bs _ (getD_mem R default hll)).2
        have ST := hid (Plain.lettersF_step (R.map RM.m) k hlm hlt6)
        rw [getD_map RM.m R default default hll] at ST
        have HY := hid (show By w.heap.size wr (R.getD k default).p (R.getD k default).c (R.getD k default).m.data from (HP.out.bs _ (getD_mem R default hll)).1.keep (Kb.of_below HI.out.be))
        clear hc HMv
        generalize R.getD k default = r at c0 c1 c2 c3 c4 ST HY hIn
        obtain ⟨⟨mo, mf, mt, mi, md⟩, mp, mc⟩ := r
        dsimp only at c0 c1 c2 c3 c4 ST HY hIn
        have K1 := fun W => picked_any mf 4 hIn.f.1 hIn.f.2 (by omega) (by omega) W
        have K2 := fun W => picked_any mt 4 hIn.t.1 hIn.t.2 (by omega) (by omega) W
        have K3 := fun W => picked_any mi 31 hIn.i.1 hIn.i.2 (by omega) (by omega) W
        clear hIn
        generalize hf4 : mf % 4 = f4 at K1
        have HF4 := hid hf4
        generalize ht4 : mt % 4 = t4 at K2
        have HT4 := hid ht4
        generalize hi4 : mi % 31 = i4 at K3
        have HI4 := hid hi4
        clear hf4 ht4 hi4
        cases mo with
        | true =>
          go_wp2
          go_region_held3 (fun w' => w'.cell? ⟨b, off + k * 5 + 1, none⟩ = some (.int .i64 mf) ∧ w'.cell? ⟨b, off + k * 5 + 2, none⟩ = some (.int .i64 mt)) (go_keep)
            (first | (go_at_call_of 12 (Value.int .i64 mf); refine (K1 _).mono ?_; rintro e w' ⟨rfl, rfl⟩) | (go_at_call_of 12 (Value.int .i64 mt); refine (K2 _).mono ?_; rintro e w' ⟨rfl, rfl⟩))
          all_goals
            go_upto_region 10 with (first | (go_at_call 12; refine (K3 _).mono ?_; rintro e w' ⟨rfl, rfl⟩) | fail)
            obtain ⟨W5, hW5⟩ : ∃ W5, W5 = (wr.alloc (boxL ⟨⟨2, f4, t4, i4, []⟩, none, 0⟩)).drew := ⟨_, rfl⟩
            have I5 := hid (show LI w W5 (.slice q k c) Rs by rw [hW5]; exact HI.out.grow (((Below.refl _ _).alloc (Nat.le_refl _) _).drew))
            have B5 := hid (show W5.rowIs wr.heap.size 53 5 (ltF ⟨⟨2, f4, t4, i4, []⟩, none, 0⟩) by rw [hW5]; exact (rowL_new wr _).of_block rfl)
            have eW : (wr.alloc (.cells #[.int .i64 2, .int .i64 f4, .int .i64 t4, .int .i64 i4, .slice none 0 0] 53)).drew = W5 := hW5.symm
            rw [eW]
            clear hW5 eW c0 c1 c2 c3 c4 K1 K2 K3 HI HY
            have d0 : W5.cell? ⟨wr.heap.size, 0, none⟩ = some (.int .i64 2) := B5.out.cell (i := 0) (by omega)
            have d1 : W5.cell? ⟨wr.heap.size, 1, none⟩ = some (.int .i64 f4) := B5.out.cell (i := 1) (by omega)
            have d2 : W5.cell? ⟨wr.heap.size, 2, none⟩ = some (.int .i64 t4) := B5.out.cell (i := 2) (by omega)
            have d3 : W5.cell? ⟨wr.heap.size, 3, none⟩ = some (.int .i64 i4) := B5.out.cell (i := 3) (by omega)
            have d4 : W5.cell? ⟨wr.heap.size, 4, none⟩ = some (.slice none 0 0) := B5.out.cell (i := 4) (by omega)
            obtain ⟨pn, cn, U, hrun, hU⟩ := I5.out.snoc (by have := HL.out; omega) ⟨⟨2, f4, t4, i4, []⟩, none, 0⟩ (By.nil _ _)
            rw [HL.out] at hrun hU
            have RUN := hid (show (Builtin.append_ #[38, 38] 38 #[.slice q k c, .slice (some ⟨W5.heap.size, 0, none⟩) 1 1]).run Try.prog (W5.alloc (.cells #[.int .i64 2, .int .i64 f4, .int .i64 t4, .int .i64 i4, .slice none 0 0] 53)) = .ok (.slice pn (k + 1) cn) U from hrun)
            have HU := hid hU
            clear hrun hU I5 B5
            go_wp2_with (first | (at_builtin; refine wpList_app _ _ 38 RUN.out (by rfl) (by rfl) (by rfl) (by rfl) (by rfl) ?_) | fail)
            go_wp2
            go_roundg (n - (k + 1))
            case measure => omega
            case rel =>
              refine ⟨k + 1, Rs ++ [(⟨⟨2, f4, t4, i4, []⟩, none, 0⟩ : RL)], pn, cn, by omega, by omega, by omega, by go_num, rfl, (show Aside _ from HU.out), (show Aside _ from by rw [List.length_append, HL.out]; rfl), (show Aside _ from ?_)⟩
              rw [ST.out, List.map_append, HR.out]
              congr 1
              show [(⟨2, f4, t4, i4, []⟩ : Plain.Le)] = [Plain.leOf ⟨true, mf, mt, mi, md⟩]
              unfold Plain.leOf
              rw [if_pos rfl, ← HF4.out, ← HT4.out, ← HI4.out]
        | false =>
          go_wp2
          go_region_held3 (fun w' => w'.cell? ⟨b, off + k * 5 + 1, none⟩ = some (.int .i64 mf) ∧ w'.cell? ⟨b, off + k * 5 + 2, none⟩ = some (.int .i64 mt)) (go_keep)
            (first | (go_at_call_of 12 (Value.int .i64 mf); refine (K1 _).mono ?_; rintro e w' ⟨rfl, rfl⟩) | (go_at_call_of 12 (Value.int .i64 mt); refine (K2 _).mono ?_; rintro e w' ⟨rfl, rfl⟩))
          all_goals
            go_upto_region 9 with fail
            obtain ⟨W4, hW4⟩ : ∃ W4, W4 = (wr.alloc (boxL ⟨⟨1, f4, t4, 0, []⟩, none, 0⟩)).drew := ⟨_, rfl⟩
            have BW := show Below wr.heap.size wr W4 by rw [hW4]; exact ((Below.refl _ _).alloc (Nat.le_refl _) _).drew
            have I4 := hid (HI.out.grow BW)
            have B4 := hid (show W4.rowIs wr.heap.size 53 5 (ltF ⟨⟨1, f4, t4, 0, []⟩, none, 0⟩) by rw [hW4]; exact (rowL_new wr _).of_block rfl)
            have hy4 := HY.out.grow BW
            have HNE := hid (show (Value.slice q k c).ownBlock ≠ some wr.heap.size ∧ w.heap.size ≤ wr.heap.size from ⟨fun e => by have := (HI.out.ow.lt _ e).2; omega, HI.out.be.size⟩)
            have e4 : W4.cell? ⟨b, off + k * 5 + 4, none⟩ = some (.slice mp md.length mc) := (BW.cell (p := ⟨b, off + k * 5 + 4, none⟩) (World.block_lt_of_cell? (w := wr) (h := c4))).trans c4
            have eW : (wr.alloc (.cells #[.int .i64 1, .int .i64 f4, .int .i64 t4, .int .i64 0, .slice none 0 0] 53)).drew = W4 := hW4.symm
            rw [eW]
            clear hW4 eW c0 c1 c2 c3 c4 K1 K2 K3 HI HY BW
            have hmc : md.length ≤ mc ∧ mc ≤ 9223372036854775807 := ⟨hy4.le, hy4.cm⟩
            obtain ⟨p', c', W1, hr1, hb1, hg1⟩ := By.app (w := W4.drew) ((hy4.drewN 1).take 20) (by rw [List.length_take]; omega)
            have g4 : W1.cell? ⟨b, off + k * 5 + 4, none⟩ = some (.slice mp md.length mc) := (hg1.cell (p := ⟨b, off + k * 5 + 4, none⟩) (World.block_lt_of_cell? (w := W4) (h := e4))).trans (by simpa using e4)
            have R1 := hid (B4.out.of_block (w' := W1) (hg1.block _ B4.out.lt))
            have y4 : W1.cell? ⟨wr.heap.size, 4, none⟩ = some (.slice none 0 0) := R1.out.cell (i := 4) (by omega)
            have z4 := R1.out.frozen 4
            have I1 := hid (LI.grow (W := W4.drew) (I4.out.grow ((Below.refl _ _).drew)) hg1)
            have HB1 := hid hb1
            clear hb1 hg1 I4 B4 hy4
            obtain ⟨d20, hd20⟩ : ∃ d, d = md.take 20 := ⟨_, rfl⟩
            rw [← hd20] at hr1 HB1
            by_cases h20 : md.length ≤ 20
            · have em : d20.length = md.length := by rw [hd20, List.length_take]; omega
              rw [em] at hr1
              have RUN1 := hid hr1
              clear hr1
              have hmz : (md.length : Int) ≤ 20 := by omega
              generalize md.length = m at *
              have HM := hid em
              have HD20 := hid hd20
              clear em hd20
              have hmc0 : (0 : Int) ≤ (m : Int) := by omega
              have hmc1 : (m : Int) ≤ (mc : Int) := by omega
              have hmin : ¬ (20 : Int) < (m : Int) := by omega
              have s4 : ∀ v, (W1.setCell ⟨wr.heap.size, 4, none⟩ v).cell? ⟨b, off + k * 5 + 4, none⟩ = some (.slice mp m mc) := fun v => by
                rw [← g4]
                have := Below.heap_setCell W1 ⟨wr.heap.size, 4, none⟩ v b (Nat.ne_of_lt hb)
                simp only [World.cell?, this]
              go_region_held3 (fun w' => w'.cell? ⟨b, off + k * 5 + 4, none⟩ = some (.slice mp m mc)) (first | exact s4 _ | go_keep) (first | (refine step_appG _ _ 42 rfl 42 rfl (.slice none 0 0) (.slice mp m mc) (by simp [Act.eval]) (by simp [Act.eval]) RUN1.out (by rfl) ?_))
              all_goals
                go_upto_region 10 with fail
                obtain ⟨W5, hW5⟩ : ∃ W5, W5 = W1.setCell ⟨wr.heap.size, 4, none⟩ (.slice p' m c') := ⟨_, rfl⟩
                rw [← hW5]
                have o5 : Only1 wr.heap.size W1 W5 := by rw [hW5]; exact Only1.set _ _ _
                have B5 := hid (show W5.rowIs wr.heap.size 53 5 (ltF ⟨⟨1, f4, t4, 0, d20⟩, p', c'⟩) by rw [hW5, ← HM.out]; exact rowL_data R1.out p' d20 c')
                have I5 := hid (LI.only (I1.out) o5 R1.out HNE.out.1 HNE.out.2)
                have Y5 := hid (HB1.out.keep (o5.kb R1.out (by decide) HNE.out.2))
                clear hW5 o5 s4 g4 y4 z4 RUN1 e4
                have d0 : W5.cell? ⟨wr.heap.size, 0, none⟩ = some (.int .i64 1) := B5.out.cell (i := 0) (by omega)
                have d1 : W5.cell? ⟨wr.heap.size, 1, none⟩ = some (.int .i64 f4) := B5.out.cell (i := 1) (by omega)
                have d2 : W5.cell? ⟨wr.heap.size, 2, none⟩ = some (.int .i64 t4) := B5.out.cell (i := 2) (by omega)
                have d3 : W5.cell? ⟨wr.heap.size, 3, none⟩ = some (.int .i64 0) := B5.out.cell (i := 3) (by omega)
                have d4 : W5.cell? ⟨wr.heap.size, 4, none⟩ = some (.slice p' m c') := by rw [← HM.out]; exact B5.out.cell (i := 4) (by omega)
                obtain ⟨pn, cn, U, hrun, hU⟩ := I5.out.snoc (by have := HL.out; omega) ⟨⟨1, f4, t4, 0, d20⟩, p', c'⟩ Y5.out
                rw [HL.out] at hrun hU
                have RUN := hid (show (Builtin.append_ #[38, 38] 38 #[.slice q k c, .slice (some ⟨W5.heap.size, 0, none⟩) 1 1]).run Try.prog (W5.alloc (.cells #[.int .i64 1, .int .i64 f4, .int .i64 t4, .int .i64 0, .slice p' m c'] 53)) = .ok (.slice pn (k + 1) cn) U by rw [← HM.out]; exact hrun)
                have HU := hid hU
                clear hrun hU I5 B5
                go_wp2_with (first | (at_builtin; refine wpList_app _ _ 38 RUN.out (by rfl) (by rfl) (by rfl) (by rfl) (by rfl) ?_) | fail)
                go_wp2
                go_roundg (n - (k + 1))
                case measure => omega
                case rel =>
                  refine ⟨k + 1, Rs ++ [(⟨⟨1, f4, t4, 0, d20⟩, p', c'⟩ : RL)], pn, cn, by omega, by omega, by omega, by go_num, rfl, (show Aside _ from HU.out), (show Aside _ from by rw [List.length_append, HL.out]; rfl), (show Aside _ from ?_)⟩
                  rw [ST.out, List.map_append, HR.out]
                  congr 1
                  show [(⟨1, f4, t4, 0, d20⟩ : Plain.Le)] = [Plain.leOf ⟨false, mf, mt, mi, md⟩]
                  unfold Plain.leOf
                  rw [if_neg (show ¬ (Plain.Ml.op ⟨false, mf, mt, mi, md⟩ = true) from Bool.false_ne_true), HD20.out, ← HF4.out, ← HT4.out]
            · have em : d20.length = 20 := by rw [hd20, List.length_take]; omega
              rw [em] at hr1
              have RUN1 := hid hr1
              clear hr1
              have hmz : ¬ (md.length : Int) ≤ 20 := by omega
              have hm20 : (20 : Int) ≤ (md.length : Int) := by omega
              generalize md.length = m at *
              have HM := hid em
              have HD20 := hid hd20
              clear em hd20
              have hmc0 : (0 : Int) ≤ (m : Int) := by omega
              have hmc1 : (m : Int) ≤ (mc : Int) := by omega
              have hmc2 : (20 : Int) ≤ (mc : Int) := by omega
              have hmin : (20 : Int) < (m : Int) := by omega
              have s4 : ∀ v, (W1.setCell ⟨wr.heap.size, 4, none⟩ v).cell? ⟨b, off + k * 5 + 4, none⟩ = some (.slice mp m mc) := fun v => by
                rw [← g4]
                have := Below.heap_setCell W1 ⟨wr.heap.size, 4, none⟩ v b (Nat.ne_of_lt hb)
                simp only [World.cell?, this]
              go_region_held3 (fun w' => w'.cell? ⟨b, off + k * 5 + 4, none⟩ = some (.slice mp m mc)) (first | exact s4 _ | go_keep) (first | (refine step_appG _ _ 42 rfl 42 rfl (.slice none 0 0) (.slice mp 20 mc) (by simp [Act.eval]) (by simp [Act.eval]) RUN1.out (by rfl) ?_))
              all_goals
                go_upto_region 10 with fail
                obtain ⟨W5, hW5⟩ : ∃ W5, W5 = W1.setCell ⟨wr.heap.size, 4, none⟩ (.slice p' 20 c') := ⟨_, rfl⟩
                rw [← hW5]
                have o5 : Only1 wr.heap.size W1 W5 := by rw [hW5]; exact Only1.set _ _ _
                have B5 := hid (show W5.rowIs wr.heap.size 53 5 (ltF ⟨⟨1, f4, t4, 0, d20⟩, p', c'⟩) by rw [hW5, ← HM.out]; exact rowL_data R1.out p' d20 c')
                have I5 := hid (LI.only (I1.out) o5 R1.out HNE.out.1 HNE.out.2)
                have Y5 := hid (HB1.out.keep (o5.kb R1.out (by decide) HNE.out.2))
                clear hW5 o5 s4 g4 y4 z4 RUN1 e4
                have d0 : W5.cell? ⟨wr.heap.size, 0, none⟩ = some (.int .i64 1) := B5.out.cell (i := 0) (by omega)
                have d1 : W5.cell? ⟨wr.heap.size, 1, none⟩ = some (.int .i64 f4) := B5.out.cell (i := 1) (by omega)
                have d2 : W5.cell? ⟨wr.heap.size, 2, none⟩ = some (.int .i64 t4) := B5.out.cell (i := 2) (by omega)
                have d3 : W5.cell? ⟨wr.heap.size, 3, none⟩ = some (.int .i64 0) := B5.out.cell (i := 3) (by omega)
                have d4 : W5.cell? ⟨wr.heap.size, 4, none⟩ = some (.slice p' 20 c') := by rw [← HM.out]; exact B5.out.cell (i := 4) (by omega)
                obtain ⟨pn, cn, U, hrun, hU⟩ := I5.out.snoc (by have := HL.out; omega) ⟨⟨1, f4, t4, 0, d20⟩, p', c'⟩ Y5.out
                rw [HL.out] at hrun hU
                have RUN := hid (show (Builtin.append_ #[38, 38] 38 #[.slice q k c, .slice (some ⟨W5.heap.size, 0, none⟩) 1 1]).run Try.prog (W5.alloc (.cells #[.int .i64 1, .int .i64 f4, .int .i64 t4, .int .i64 0, .slice p' 20 c'] 53)) = .ok (.slice pn (k + 1) cn) U by rw [← HM.out]; exact hrun)
                have HU := hid hU
                clear hrun hU I5 B5
                go_wp2_with (first | (at_builtin; refine wpList_app _ _ 38 RUN.out (by rfl) (by rfl) (by rfl) (by rfl) (by rfl) ?_) | fail)
                go_wp2
                go_roundg (n - (k + 1))
                case measure => omega
                case rel =>
                  refine ⟨k + 1, Rs ++ [(⟨⟨1, f4, t4, 0, d20⟩, p', c'⟩ : RL)], pn, cn, by omega, by omega, by omega, by go_num, rfl, (show Aside _ from HU.out), (show Aside _ from by rw [List.length_append, HL.out]; rfl), (show Aside _ from ?_)⟩
                  rw [ST.out, List.map_append, HR.out]
                  congr 1
                  show [(⟨1, f4, t4, 0, d20⟩ : Plain.Le)] = [Plain.leOf ⟨false, mf, mt, mi, md⟩]
                  unfold Plain.leOf
                  rw [if_neg (show ¬ (Plain.Ml.op ⟨false, mf, mt, mi, md⟩ = true) from Bool.false_ne_true), HD20.out, ← HF4.out, ← HT4.out]
      · have hlt6z : ¬ (k : Int) < 60 := by omega
        have E1 := hid (show Rs.map RL.x = Plain.lettersF (R.map RM.m) by rw [AR.out, Plain.lettersF_take _ _ (.inr (by omega))])
        have HI := hid (show LI w wr (.slice q Rs.length c) Rs by rw [AL.out]; exact A.out)
        have HL := hid AL.out
        clear A AL AR
        go_wp2
        go_ret
        exact ⟨q, c, Rs, by rw [HL.out]; rfl, E1.out, HI.out⟩
    · have hltz : ¬ (k : Int) < (n : Int) := by omega
      have E1 := hid (show Rs.map RL.x = Plain.lettersF (R.map RM.m) by rw [AR.out, Plain.lettersF_take _ _ (.inl (by rw [List.length_map, HN.out]; omega))])
      have HI := hid (show LI w wr (.slice q Rs.length c) Rs by rw [AL.out]; exact A.out)
      have HL := hid AL.out
      clear A AL AR
      go_wp2
      go_ret
      exact ⟨q, c, Rs, by rw [HL.out]; rfl, E1.out, HI.out⟩
end Go.Proofs.Ytiolkeghgodggai.Se
