/-
  A contract of the document's answer to Merge.
-/
import Derived.Test.YthdhcnjebigdfaeRy
import Derived.Test.YthdhcnjebigdfaeEr
import Derived.Test.YthdhcnjebigdfaeRng
import Derived.Test.YthdhcnjebigdfaeAp
namespace Go.Proofs.Ythdhcnjebigdfae
open Go.RowKit Go.Sort

namespace Plain
theorem drop_cons {l : List En} {i : Nat} (h : i < l.length) : l.drop i = en l i :: l.drop (i + 1) := by
  rw [List.drop_eq_getElem_cons h, en_lt h]
/-- What is merged so far: i of a, k of b. -/
def Mid (a b : List En) (i k : Nat) (O : List En) : Prop := O ++ mrg (a.drop i) (b.drop k) = mrg a b ∧ O.length ≤ i + k
theorem mid_start (a b : List En) : Mid a b 0 0 [] := ⟨rfl, by simp⟩
theorem mrg_nil (a : List En) : mrg a [] = a := by
  cases a with
  | nil => rw [mrg]
  | cons x a => rw [mrg]; simp
theorem mid_left {a b O : List En} {i k : Nat} (h : Mid a b i k O) (hi : i < a.length) (hk : k = b.length ∨ (k < b.length ∧ (en a i).key < (en b k).key)) : Mid a b (i + 1) k (O ++ [en a i]) := by
  refine ⟨?_, by have := h.2; simp; omega⟩
  rw [← h.1, List.append_assoc, drop_cons hi]
  congr 1
  rcases hk with rfl | ⟨hk, hlt⟩
  · rw [List.drop_length, mrg_nil, mrg_nil]; rfl
  · rw [drop_cons hk, mrg, if_pos hlt]; rfl
theorem mid_right {a b O : List En} {i k : Nat} (h : Mid a b i k O) (hk : k < b.length) (hi : i = a.length ∨ (i < a.length ∧ (en b k).key < (en a i).key)) : Mid a b i (k + 1) (O ++ [en b k]) := by
  refine ⟨?_, by have := h.2; simp; omega⟩
  rw [← h.1, List.append_assoc, drop_cons hk]
  congr 1
  rcases hi with rfl | ⟨hi, hlt⟩
  · rw [List.drop_length, mrg, mrg]; rfl
  · rw [drop_cons hi, mrg, if_neg (by omega), if_pos hlt]; rfl
theorem mid_both {a b O : List En} {i k : Nat} (h : Mid a b i k O) (hi : i < a.length) (hk : k < b.length) (he : (en a i).key = (en b k).key) : Mid a b (i + 1) (k + 1) (O ++ [top (en a i) (en b k)]) := by
  refine ⟨?_, by have := h.2; simp; omega⟩
  rw [← h.1, List.append_assoc, drop_cons hi, drop_cons hk]
  congr 1
  rw [mrg, if_neg (by omega), if_neg (by omega)]; rfl
theorem mid_end {a b O : List En} (h : Mid a b a.length b.length O) : O = mrg a b := by
  have := h.1
  rw [List.drop_length, List.drop_length] at this
  rw [← this, mrg]
  simp
end Plain

/-- append of one entry that has just been laid. -/
theorem app_one {w : World} {B : Nat} {v : Value} {l : List Plain.En} (y : Plain.En) (hl : l.length ≤ 100) (hB : B ≤ w.heap.size) (h : OwnN w B 40 v l) :
    ∃ v' w', (Builtin.append_ #[37, 37] 37 #[v, .slice (some ⟨w.heap.size, 0, none⟩) 1 1]).run Try.prog (w.alloc (boxE y)) = .ok v' w' ∧ OwnN w' B 40 v' (l ++ [y]) ∧ Below B w w' := by
  obtain ⟨i0, hi, hz0, hz1, hz2⟩ := info_parts Try.infoEntry
  have hg := h.grow ((Below.refl _ _).alloc (Nat.le_refl _) (boxE y))
  obtain ⟨v', w', a1, a2, a3, _⟩ := run_append_own (P := Try.prog) (w.alloc (boxE y)) B 37 37 40 i0 _ 5 40 Try.underlying37 hi hz0 hz1 hz2 rfl (by decide) v l.length (evals l) hg ⟨w.heap.size, 0, none⟩ 1 1 (encE y) rfl (fun j u hj => by
    rw [add_zero_at]
    have hb : (w.alloc (boxE y)).heap[w.heap.size]? = some (boxE y) := Deep.blk_alloc_new w _
    simp only [World.cell?, hb]
    match j, hj with
    | 0, hj => injection hj with hj; subst hj; rfl
    | 1, hj => injection hj with hj; subst hj; rfl
    | 2, hj => injection hj with hj; subst hj; rfl
    | 3, hj => injection hj with hj; subst hj; rfl
    | 4, hj => injection hj with hj; subst hj; rfl) (encE_one y) (by unfold maxLen; omega) (by omega) (by simp; omega)
  refine ⟨v', w', a1, ?_, ?_⟩
  · unfold OwnN
    rw [evals_app, List.length_append]
    have e : evals [y] = encE y := by rw [evals_cons]; simp [evals]
    rw [e]
    exact a2
  · refine ((Below.refl _ _).alloc hB _).grown a3 (by simp; omega) fun j hj => ?_
    rcases h.2 with ⟨e, _⟩ | ⟨g, cap, cur, e, hg, _⟩
    · rw [e] at hj; simp [Value.ownBlock] at hj
    · rw [e] at hj; simp [Value.ownBlock] at hj; omega

theorem OwnN.drewN {w : World} {B T : Nat} {v : Value} {l : List Plain.En} (h : OwnN w B T v l) (q : Nat) : OwnN (w.drewN q) B T v l := h.grow (below_drewN (Below.refl _ _) q)
theorem CellN.drewN {w : World} {b o : Nat} {e : Plain.En} (h : CellN w b o e) (q : Nat) : CellN (w.drewN q) b o e := ⟨by simpa using h.c0, by simpa using h.c1, by simpa using h.c2, by simpa using h.c3, by simpa using h.c4⟩

/-- A store into another block leaves the row as it is. -/
theorem OwnN.over {w : World} {B T bx : Nat} {v : Value} {l : List Plain.En} (h : OwnN w B T v l) (hne : ∀ g n c, v = .slice (some ⟨g, 0, none⟩) n c → g ≠ bx) (o : Nat) (y : Plain.En) : OwnN (setE w bx o y) B T v l := by
  refine ⟨h.1, ?_⟩
  rcases h.2 with h0 | ⟨g, cap, cur, e, hB, hb, h3⟩
  · exact .inl h0
  · have hn := hne g _ _ e
    refine .inr ⟨g, cap, cur, e, hB, ?_, h3⟩
    unfold setE
    rw [Below.heap_setCell _ _ _ _ hn, Below.heap_setCell _ _ _ _ hn, Below.heap_setCell _ _ _ _ hn, Below.heap_setCell _ _ _ _ hn, Below.heap_setCell _ _ _ _ hn]
    exact hb
theorem setE_size' (w : World) (g o : Nat) (y : Plain.En) : (setE w g o y).heap.size = w.heap.size := by simp [setE, World.setCell]

/-- What lies in memory on the way. -/
structure MI (a b : List Plain.En) (pa pb : Option Addr) (i k : Nat) (w wx : World) (vo : Value) (O : List Plain.En) : Prop where
  mid : Plain.Mid a b i k O
  own : OwnN wx w.heap.size 40 vo O
  bel : Below w.heap.size w wx
  aa : i < a.length → ∃ g o, pa = some ⟨g, o, none⟩ ∧ g < w.heap.size ∧ CellN wx g (o + i * 5) (Plain.en a i)
  bb : k < b.length → ∃ g o, pb = some ⟨g, o, none⟩ ∧ g < w.heap.size ∧ CellN wx g (o + k * 5) (Plain.en b k)

set_option maxHeartbeats 8000000 in
set_option maxRecDepth 100000 in
theorem rmerge_walk (pa pb : Option Addr) (ca cb : Nat) (a b : List Plain.En) (ha : Plain.mayL a = true) (hb : Plain.mayL b = true) (w : World)
    (sa : SegN w (.slice pa a.length ca) a) (ya : Lies w.heap.size (.slice pa a.length ca)) (sb : SegN w (.slice pb b.length cb) b) (yb : Lies w.heap.size (.slice pb b.length cb)) :
    Calls Try.prog 18 #[.slice pa a.length ca, .slice pb b.length cb] w fun e w' =>
      ∃ r, e = .returned (.tuple #[r, .int .i64 (Plain.mergeE a b : Nat)]) ∧ SegN w' r (Plain.mergeR a b) ∧ Lies w'.heap.size r ∧ Below w.heap.size w w' := by
  obtain ⟨a8, _, asrt⟩ := (Plain.may_iff a).1 ha
  obtain ⟨b8, _, bsrt⟩ := (Plain.may_iff b).1 hb
  have K1 := rmay_any _ a w sa ya
  have K2 := fun w1 (b1 : Below w.heap.size w w1) => rmay_any _ b w1 (sb.below b1 yb) (yb.mono b1.size)
  have HE := hid (show Plain.mergeE a b = if (Plain.mrg a b).length ≤ 8 then 0 else 8 by unfold Plain.mergeE; rw [if_pos ⟨ha, hb⟩, Plain.mrg_merge asrt bsrt])
  have HM := hid (Plain.mrg_merge asrt bsrt)
  have HI := hid (show ∀ i k wx vo O, Plain.Mid a b i k O → OwnN wx w.heap.size 40 vo O → Below w.heap.size w wx → MI a b pa pb i k w wx vo O from fun i k wx vo O h1 h2 h3 => ⟨h1, h2, h3, fun hi => by
      obtain ⟨p, cap, e, h4⟩ := sa.form
      obtain ⟨g, o, rfl, _, hc⟩ := h4 (by omega)
      injection e with e1 _ _
      subst e1
      have hg := ya ⟨g, o, none⟩ _ _ rfl (by omega)
      exact ⟨g, o, rfl, hg, (hc i hi).below h3 hg⟩, fun hk => by
      obtain ⟨p, cap, e, h4⟩ := sb.form
      obtain ⟨g, o, rfl, _, hc⟩ := h4 (by omega)
      injection e with e1 _ _
      subst e1
      have hg := yb ⟨g, o, none⟩ _ _ rfl (by omega)
      exact ⟨g, o, rfl, hg, (hc k hk).below h3 hg⟩⟩)
  rw [ha] at K1
  rw [hb] at K2
  clear sa sb ya yb ha hb asrt bsrt
  generalize hna : a.length = na at K1 a8 ⊢
  generalize hnb : b.length = nb at K2 b8 ⊢
  have HA := hid hna
  have HB := hid hnb
  clear hna hnb
  go_enter Try.func18, Try.ntmps18
  go_wp2_with fail
  refine K1.mono ?_
  rintro e w1 ⟨rfl, b1⟩
  go_wp2_with fail
  refine (K2 w1 b1).mono ?_
  rintro e w2 ⟨rfl, b2⟩
  have B2 := hid (b1.trans (b2.mono b1.size))
  clear b1 b2 K1 K2
  go_wp2
  go_loopw [6, 7, 8] (fun vo si sk wx => ∃ (i k : Nat) (O : List Plain.En), si = .int .i64 i ∧ sk = .int .i64 k ∧ i ≤ na ∧ k ≤ nb ∧ MI a b pa pb i k w wx vo O) (fun _ si sk _ => na + nb - ((intOf si).toNat + (intOf sk).toNat))
  case atStart => exact ⟨0, 0, [], rfl, rfl, Nat.zero_le _, Nat.zero_le _, HI.out _ _ _ _ _ (Plain.mid_start a b) (OwnN.nil _ _ _) B2.out⟩
  case round =>
    obtain ⟨i, k, O, rfl, rfl, hi, hk, hMI⟩ := hrel
    have HMI := hid hMI
    have hO16 : O.length ≤ 16 := by have := hMI.mid.2; omega
    have hsz := hMI.bel.size
    clear hMI
    have mixed : Try.prog.follows .mixedOrders = true := by kernel_rfl
    by_cases hin : i < na
    · have hin' : (i : Int) < (na : Int) := by omega
      obtain ⟨ga, oa, rfl, hga, hca⟩ := HMI.out.aa (by rw [HA.out]; exact hin)
      have HCA := hid hca
      clear hca
      by_cases hkn : k < nb
      · have hkn' : (k : Int) < (nb : Int) := by omega
        have hke : ((k : Int) == (nb : Int)) = false := beq_eq_false_iff_ne.2 (by omega)
        have hie : ((i : Int) == (na : Int)) = false := beq_eq_false_iff_ne.2 (by omega)
        have hid1 : decide ((i : Int) < (na : Int)) = true := decide_eq_true hin'
        obtain ⟨gb, ob, rfl, hgb, hcb⟩ := HMI.out.bb (by rw [HB.out]; exact hkn)
        have HCB := hid hcb
        clear hcb
        have HML := hid (Plain.mid_left HMI.out.mid (by rw [HA.out]; exact hin))
        have HMR := hid (Plain.mid_right HMI.out.mid (by rw [HB.out]; exact hkn))
        have HMB := hid (Plain.mid_both HMI.out.mid (by rw [HA.out]; exact hin) (by rw [HB.out]; exact hkn))
        have hAB : i < a.length ∧ k < b.length := ⟨by rw [HA.out]; exact hin, by rw [HB.out]; exact hkn⟩
        have HAB := hid hAB
        clear hAB
        generalize Plain.en a i = x at HML HMR HMB HCA
        generalize Plain.en b k = y at HML HMR HMB HCB
        have x0 := HCA.out.c0
        have y0 := HCB.out.c0
        by_cases h1 : x.key < y.key
        · have hd1 : decide (x.key < y.key) = true := decide_eq_true h1
          have HL := hid (HML.out (.inr ⟨HAB.out.2, h1⟩))
          clear HML HMR HMB
          go_wp2
          go_quiet (fail)
          obtain ⟨wq, hwq⟩ : ∃ wq, wq = wr.drewN nq := ⟨_, rfl⟩
          rw [← hwq]
          clear x0 y0
          obtain ⟨x0, x1, x2, x3, x4⟩ := (show CellN wq ga (oa + i * 5) x by rw [hwq]; exact HCA.out.drewN nq)
          obtain ⟨v', w', hrun, o', b'⟩ := app_one (w := wq) x (by omega) (by rw [hwq]; exact hsz) (show OwnN wq w.heap.size 40 u6 O by rw [hwq]; exact HMI.out.own.drewN nq)
          have RUN := hid hrun
          have R := hid (HI.out (i + 1) k w' v' _ HL.out o' ((show Below w.heap.size w wq by rw [hwq]; exact below_drewN HMI.out.bel nq).trans b'))
          clear hrun o' b' hwq
          go_wp2_with (first | (at_builtin; refine wpList_app _ _ 37 RUN.out (by rfl) (by rfl) (by rfl) (by rfl) (by rfl) ?_) | fail)
          go_roundw
          case rel => exact ⟨i + 1, k, _, by go_num, rfl, by omega, by omega, R.out⟩
          case measure => simp [intOf]; omega
        · have hd1 : decide (x.key < y.key) = false := decide_eq_false h1
          by_cases h2 : y.key < x.key
          · have hd2 : decide (y.key < x.key) = true := decide_eq_true h2
            have HL := hid (HMR.out (.inr ⟨HAB.out.1, h2⟩))
            clear HML HMR HMB
            go_wp2
            go_quiet (fail)
            obtain ⟨wp, hwp⟩ : ∃ wp, wp = wr.drewN nq := ⟨_, rfl⟩
            rw [← hwp]
            clear x0 y0
            have x0 := (show CellN wp ga (oa + i * 5) x by rw [hwp]; exact HCA.out.drewN _).c0
            have y0 := (show CellN wp gb (ob + k * 5) y by rw [hwp]; exact HCB.out.drewN _).c0
            have HWP := hid hwp
            clear hwp
            go_wp2
            go_quiet (fail)
            obtain ⟨wq, hwq⟩ : ∃ wq, wq = wp.drewN nq := ⟨_, rfl⟩
            rw [← hwq]
            have HQ := hid (show wq = wr.drewN _ by rw [hwq, HWP.out, World.drewN_drewN])
            clear hwq HWP x0 y0
            obtain ⟨y0, y1, y2, y3, y4⟩ := (show CellN wq gb (ob + k * 5) y by rw [HQ.out]; exact HCB.out.drewN _)
            obtain ⟨v', w', hrun, o', b'⟩ := app_one (w := wq) y (by omega) (by rw [HQ.out]; exact hsz) (show OwnN wq w.heap.size 40 u6 O by rw [HQ.out]; exact HMI.out.own.drewN _)
            have RUN := hid hrun
            have R := hid (HI.out i (k + 1) w' v' _ HL.out o' ((show Below w.heap.size w wq by rw [HQ.out]; exact below_drewN HMI.out.bel _).trans b'))
            clear hrun o' b'
            go_wp2_with (first | (at_builtin; refine wpList_app _ _ 37 RUN.out (by rfl) (by rfl) (by rfl) (by rfl) (by rfl) ?_) | fail)
            go_roundw
            case rel => exact ⟨i, k + 1, _, rfl, by go_num, by omega, by omega, R.out⟩
            case measure => simp [intOf]; omega
          · have hd2 : decide (y.key < x.key) = false := decide_eq_false h2
            have HL := hid (HMB.out (by omega))
            clear HML HMR HMB
            go_wp2
            go_quiet (fail)
            obtain ⟨wp, hwp⟩ : ∃ wp, wp = wr.drewN nq := ⟨_, rfl⟩
            rw [← hwp]
            clear x0 y0
            have x0 := (show CellN wp ga (oa + i * 5) x by rw [hwp]; exact HCA.out.drewN _).c0
            have y0 := (show CellN wp gb (ob + k * 5) y by rw [hwp]; exact HCB.out.drewN _).c0
            have HWP := hid hwp
            clear hwp
            go_wp2
            go_quiet (fail)
            obtain ⟨wq, hwq⟩ : ∃ wq, wq = wp.drewN nq := ⟨_, rfl⟩
            rw [← hwq]
            have HQ := hid (show wq = wr.drewN _ by rw [hwq, HWP.out, World.drewN_drewN])
            clear hwq HWP x0 y0
            have CX := hid (show CellN wq ga (oa + i * 5) x by rw [HQ.out]; exact HCA.out.drewN _)
            have CY := hid (show CellN wq gb (ob + k * 5) y by rw [HQ.out]; exact HCB.out.drewN _)
            have CO := hid (show OwnN wq w.heap.size 40 u6 O by rw [HQ.out]; exact HMI.out.own.drewN _)
            have CB := hid (show Below w.heap.size w wq by rw [HQ.out]; exact below_drewN HMI.out.bel _)
            clear HQ HCA HCB HMI hd1 hd2 h1 h2 hke hie hid1
            obtain ⟨x0, x1, x2, x3, x4⟩ := CX.out
            have KA := fun W => rnewer_g y x W
            have HT : Plain.top x y = if Plain.newer y x = true then y else x := rfl
            rw [HT] at HL
            clear HT
            generalize Plain.newer y x = r at KA HL
            have hNG := hid (show ∀ g n c, u6 = .slice (some ⟨g, 0, none⟩) n c → g ≠ wq.heap.size from fun g n c e hgg => by
              subst e
              rcases CO.out.2 with ⟨e, _⟩ | ⟨g', cap, cur, e, _, hb, _⟩
              · cases e
              · simp only [Value.slice.injEq, Option.some.injEq, Addr.mk.injEq, and_true] at e
                obtain ⟨rfl, _, _⟩ := e
                have := (Array.getElem?_eq_some_iff.1 hb).1
                omega)
            go_wp2
            obtain ⟨w4, hw4⟩ : ∃ w4, w4 = wq.alloc (boxE x) := ⟨_, rfl⟩
            rw [← hw4]
            have BX := hid (show CellN w4 wq.heap.size 0 x by rw [hw4]; exact box_cellN wq x)
            have hbx : w4.heap[wq.heap.size]? = some (boxE x) := by rw [hw4]; exact Deep.blk_alloc_new wq _
            have BXB := hid hbx
            have bl4 : Below wq.heap.size wq w4 := by rw [hw4]; exact (Below.refl _ _).alloc (Nat.le_refl _) _
            have CY4 := hid (CY.out.below bl4 CY.out.lt)
            have CO4 := hid (CO.out.grow bl4)
            have CB4 := hid (CB.out.trans (bl4.mono CB.out.size))
            have hw4s : wq.heap.size < w4.heap.size := (Array.getElem?_eq_some_iff.1 hbx).1
            have hwb := CB.out.size
            clear hw4 hbx bl4 CX CY CO CB x0 x1 x2 x3 x4
            generalize hbx : wq.heap.size = bx at BX BXB hNG hw4s hwb ⊢
            have p0 := fun n os => (BX.out.grown n os).c0
            have p1 := fun n os => (BX.out.grown n os).c1
            have p2 := fun n os => (BX.out.grown n os).c2
            have p3 := fun n os => (BX.out.grown n os).c3
            have p4 := fun n os => (BX.out.grown n os).c4
            have q0 := fun n os => (CY4.out.grown n os).c0
            have q1 := fun n os => (CY4.out.grown n os).c1
            have q2 := fun n os => (CY4.out.grown n os).c2
            have q3 := fun n os => (CY4.out.grown n os).c3
            have q4 := fun n os => (CY4.out.grown n os).c4
            simp only [Nat.zero_add] at p1 p2 p3 p4
            clear hbx
            go_quiet_grown (first | (go_at_call 16; exact Calls.grown_of (KA _)) | fail)
            obtain ⟨w5, hw5⟩ : ∃ w5, w5 = grow (w4.drewN nq) osq := ⟨_, rfl⟩
            rw [← hw5]
            have bl5 : Below w4.heap.size w4 w5 := by rw [hw5]; exact below_grow (Below.refl w4.heap.size w4) (Nat.le_refl _) nq osq
            have BX5 := hid (BX.out.below bl5 hw4s)
            have BXB5 := hid ((bl5.block bx hw4s).trans BXB.out)
            have CY5 := hid (CY4.out.below bl5 CY4.out.lt)
            have CO5 := hid (CO4.out.grow bl5)
            have CB5 := hid (CB4.out.trans (bl5.mono CB4.out.size))
            clear hw5 bl5 p0 p1 p2 p3 p4 q0 q1 q2 q3 q4 KA BX BXB CY4 CO4 CB4
            cases r with
            | false =>
              simp only [Bool.false_eq_true, if_false] at HL
              obtain ⟨x0, x1, x2, x3, x4⟩ := BX5.out
              simp only [Nat.zero_add] at x1 x2 x3 x4
              obtain ⟨v', w', hrun, o', b'⟩ := app_one (w := w5) x (by omega) CB5.out.size CO5.out
              have RUN := hid hrun
              have R := hid (HI.out (i + 1) (k + 1) w' v' _ HL.out o' (CB5.out.trans b'))
              clear hrun o' b'
              go_wp2_with (first | (at_builtin; refine wpList_app _ _ 37 RUN.out (by rfl) (by rfl) (by rfl) (by rfl) (by rfl) ?_) | fail)
              go_roundw
              case rel => exact ⟨i + 1, k + 1, _, by go_num, by go_num, by omega, by omega, R.out⟩
              case measure => simp [intOf]; omega
            | true =>
              simp only [if_true] at HL
              obtain ⟨x0, x1, x2, x3, x4⟩ := BX5.out
              simp only [Nat.zero_add] at x1 x2 x3 x4
              obtain ⟨y0, y1, y2, y3, y4⟩ := CY5.out
              have f0 : w5.frozen? ⟨bx, 0, none⟩ = false := by simp [World.frozen?, BXB5.out]
              have f1 : w5.frozen? ⟨bx, 1, none⟩ = false := by simp [World.frozen?, BXB5.out]
              have f2 : w5.frozen? ⟨bx, 2, none⟩ = false := by simp [World.frozen?, BXB5.out]
              have f3 : w5.frozen? ⟨bx, 3, none⟩ = false := by simp [World.frozen?, BXB5.out]
              have f4 : w5.frozen? ⟨bx, 4, none⟩ = false := by simp [World.frozen?, BXB5.out]
              obtain ⟨v', w', hrun, o', b'⟩ := app_one (w := setE w5 bx 0 y) y (by omega) (by rw [setE_size']; exact CB5.out.size) (CO5.out.over hNG.out 0 y)
              rw [setE_size'] at hrun
              have RUN := hid hrun
              have R := hid (HI.out (i + 1) (k + 1) w' v' _ HL.out o' ((below_setE CB5.out hwb y).trans b'))
              clear hrun o' b'
              go_wp2_with (first | (at_builtin; refine wpList_app _ _ 37 RUN.out (by rfl) (by rfl) (by rfl) (by rfl) (by rfl) ?_) | fail)
              go_roundw
              case rel => exact ⟨i + 1, k + 1, _, by go_num, by go_num, by omega, by omega, R.out⟩
              case measure => simp [intOf]; omega
      · have ek : k = nb := by omega
        subst ek
        obtain ⟨x0, x1, x2, x3, x4⟩ := HCA.out
        have HL := hid (Plain.mid_left HMI.out.mid (by rw [HA.out]; exact hin) (.inl HB.out.symm))
        generalize Plain.en a i = y at x0 x1 x2 x3 x4 HL HCA
        go_wp2
        go_quiet (fail)
        obtain ⟨wq, hwq⟩ : ∃ wq, wq = wr.drewN nq := ⟨_, rfl⟩
        rw [← hwq]
        obtain ⟨x0, x1, x2, x3, x4⟩ := (show CellN wq ga (oa + i * 5) y by rw [hwq]; exact HCA.out.drewN nq)
        obtain ⟨v', w', hrun, o', b'⟩ := app_one (w := wq) y (by omega) (by rw [hwq]; exact hsz) (show OwnN wq w.heap.size 40 u6 O by rw [hwq]; exact HMI.out.own.drewN nq)
        have RUN := hid hrun
        have R := hid (HI.out (i + 1) k w' v' _ HL.out o' ((show Below w.heap.size w wq by rw [hwq]; exact below_drewN HMI.out.bel nq).trans b'))
        clear hrun o' b' hwq
        go_wp2_with (first | (at_builtin; refine wpList_app _ _ 37 RUN.out (by rfl) (by rfl) (by rfl) (by rfl) (by rfl) ?_) | fail)
        go_roundw
        case rel => exact ⟨i + 1, k, _, by go_num, rfl, by omega, by omega, R.out⟩
        case measure => simp [intOf]; omega
    · have ei : i = na := by omega
      subst ei
      by_cases hkn : k < nb
      · have hkn' : (k : Int) < (nb : Int) := by omega
        have hke : ((k : Int) == (nb : Int)) = false := beq_eq_false_iff_ne.2 (by omega)
        have hid1 : decide ((i : Int) < (i : Int)) = false := decide_eq_false (by omega)
        obtain ⟨gb, ob, rfl, hgb, hcb⟩ := HMI.out.bb (by rw [HB.out]; exact hkn)
        have HCB := hid hcb
        clear hcb
        have HL := hid (Plain.mid_right HMI.out.mid (by rw [HB.out]; exact hkn) (.inl HA.out.symm))
        generalize Plain.en b k = y at HL HCB
        go_wp2
        go_quiet (fail)
        obtain ⟨wp, hwp⟩ : ∃ wp, wp = wr.drewN nq := ⟨_, rfl⟩
        rw [← hwp]
        go_wp2
        go_quiet (fail)
        obtain ⟨wq, hwq⟩ : ∃ wq, wq = wp.drewN nq := ⟨_, rfl⟩
        rw [← hwq]
        have HQ := hid (show wq = wr.drewN _ by rw [hwq, hwp, World.drewN_drewN])
        clear hwq hwp
        obtain ⟨x0, x1, x2, x3, x4⟩ := (show CellN wq gb (ob + k * 5) y by rw [HQ.out]; exact HCB.out.drewN _)
        obtain ⟨v', w', hrun, o', b'⟩ := app_one (w := wq) y (by omega) (by rw [HQ.out]; exact hsz) (show OwnN wq w.heap.size 40 u6 O by rw [HQ.out]; exact HMI.out.own.drewN _)
        have RUN := hid hrun
        have R := hid (HI.out i (k + 1) w' v' _ HL.out o' ((show Below w.heap.size w wq by rw [HQ.out]; exact below_drewN HMI.out.bel _).trans b'))
        clear hrun o' b'
        go_wp2_with (first | (at_builtin; refine wpList_app _ _ 37 RUN.out (by rfl) (by rfl) (by rfl) (by rfl) (by rfl) ?_) | fail)
        go_roundw
        case rel => exact ⟨i, k + 1, _, rfl, by go_num, by omega, by omega, R.out⟩
        case measure => simp [intOf]; omega
      · have ek : k = nb := by omega
        subst ek
        have HO := hid (show OwnN wr w.heap.size 40 u6 (Plain.mrg a b) by
          have h1 := HMI.out.mid
          rw [← HA.out, ← HB.out] at h1
          rw [← Plain.mid_end h1]
          exact HMI.out.own)
        have HBE := hid HMI.out.bel
        obtain ⟨p, cc, rfl⟩ := HO.out.form
        clear HMI HI
        by_cases h8 : (Plain.mrg a b).length ≤ 8
        · have HR := hid (show Plain.mergeE a b = 0 by rw [HE.out, if_pos h8])
          have HR2 := hid (show Plain.mergeR a b = Plain.mrg a b by unfold Plain.mergeR; rw [if_pos HR.out, HM.out])
          generalize Plain.mrg a b = M at h8 HO HR2
          have h8' : ¬ 8 < (M.length : Int) := by omega
          clear HE HM
          go_wp2
          go_ret2
          exact ⟨_, by rw [HR.out]; rfl, by rw [HR2.out]; exact HO.out.seg.1, HO.out.seg.2, HBE.out⟩
        · have HR := hid (show Plain.mergeE a b = 8 by rw [HE.out, if_neg h8])
          have HR2 := hid (show Plain.mergeR a b = [] by unfold Plain.mergeR; rw [HR.out]; rfl)
          generalize Plain.mrg a b = M at h8 HO
          have h8' : 8 < (M.length : Int) := by omega
          clear HE HM
          go_wp2
          go_ret2
          exact ⟨_, by rw [HR.out]; rfl, by rw [HR2.out]; exact SegN.nil _, lies_nil _ _ _, HBE.out⟩

set_option maxHeartbeats 1000000 in
theorem rmerge_bad (va vb : Value) (a b : List Plain.En) (h : ¬ (Plain.mayL a = true ∧ Plain.mayL b = true)) (w : World) (sa : SegN w va a) (ya : Lies w.heap.size va) (sb : SegN w vb b) (yb : Lies w.heap.size vb) :
    Calls Try.prog 18 #[va, vb] w fun e w' => e = .returned (.tuple #[.slice none 0 0, .int .i64 (4 : Nat)]) ∧ Below w.heap.size w w' := by
  have K1 := rmay_any va a w sa ya
  have K2 := fun w1 (b1 : Below w.heap.size w w1) => rmay_any vb b w1 (sb.below b1 yb) (yb.mono b1.size)
  clear sa sb ya yb
  cases ha : Plain.mayL a with
  | false =>
    rw [ha] at K1
    clear h ha
    go_enter Try.func18, Try.ntmps18
    go_wp2_with fail
    refine K1.mono ?_
    rintro e w1 ⟨rfl, b1⟩
    go_wp2
    go_ret2
    exact ⟨rfl, b1⟩
  | true =>
    have hb : Plain.mayL b = false := by
      cases hb : Plain.mayL b with
      | false => rfl
      | true => exact absurd ⟨ha, hb⟩ h
    rw [ha] at K1
    rw [hb] at K2
    clear h ha hb
    go_enter Try.func18, Try.ntmps18
    go_wp2_with fail
    refine K1.mono ?_
    rintro e w1 ⟨rfl, b1⟩
    go_wp2_with fail
    refine (K2 w1 b1).mono ?_
    rintro e w2 ⟨rfl, b2⟩
    have B2 := hid (b1.trans (b2.mono b1.size))
    clear b1 b2 K1 K2
    go_wp2
    go_ret2
    exact ⟨rfl, B2.out⟩

theorem rmerge_any (va vb : Value) (a b : List Plain.En) (w : World) (sa : SegN w va a) (ya : Lies w.heap.size va) (sb : SegN w vb b) (yb : Lies w.heap.size vb) :
    Calls Try.prog 18 #[va, vb] w fun e w' =>
      ∃ r, e = .returned (.tuple #[r, .int .i64 (Plain.mergeE a b : Nat)]) ∧ SegN w' r (Plain.mergeR a b) ∧ Lies w'.heap.size r ∧ Below w.heap.size w w' := by
  by_cases h : Plain.mayL a = true ∧ Plain.mayL b = true
  · obtain ⟨pa, ca, rfl, _⟩ := sa.form
    obtain ⟨pb, cb, rfl, _⟩ := sb.form
    exact rmerge_walk pa pb ca cb a b h.1 h.2 w sa ya sb yb
  · have e1 : Plain.mergeE a b = 4 := by unfold Plain.mergeE; rw [if_neg h]
    have e2 : Plain.mergeR a b = [] := by unfold Plain.mergeR; rw [e1]; rfl
    rw [e1, e2]
    exact (rmerge_bad va vb a b h w sa ya sb yb).mono fun e w' ⟨h1, h2⟩ => ⟨_, h1, SegN.nil _, lies_nil _ _ _, h2⟩
end Go.Proofs.Ythdhcnjebigdfae
