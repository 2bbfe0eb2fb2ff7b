/-
  A contract of tally.Merge.
-/
import Derived.Test.YtcdlgpickjiikagTra
namespace Go.Proofs.Ytcdlgpickjiikag
open Go.RowKit Go.Sort

namespace Plain
/-- Merged up to the k-th row. -/
def midT (a b : Ta) (k : Nat) : Ta := ⟨(List.range a.moves.length).map fun i => if i < k then joinR (rw a i) (rw b i) else rw a i, joinR a.used b.used⟩
theorem rw_mid (a b : Ta) (k i : Nat) (h : i < a.moves.length) : rw (midT a b k) i = if i < k then joinR (rw a i) (rw b i) else rw a i := by
  show ((List.range a.moves.length).map fun i => if i < k then joinR (rw a i) (rw b i) else rw a i).getD i [] = _
  rw [getD_lt _ _ _ (by simpa using h), List.getElem_map, List.getElem_range]
theorem mid_zero (a b : Ta) : midT a b 0 = ⟨a.moves, joinR a.used b.used⟩ := by
  unfold midT
  congr 1
  apply List.ext_getElem
  · simp
  · intro i h1 h2
    rw [List.getElem_map, List.getElem_range, if_neg (by omega)]
    exact getD_lt _ _ _ h2
theorem mid_all (a b : Ta) : midT a b a.moves.length = mergeT a b := by
  unfold midT mergeT
  congr 1
  apply List.ext_getElem
  · simp
  · intro i h1 h2
    rw [List.getElem_map, List.getElem_map, List.getElem_range, if_pos (by simpa using h2)]
theorem mid_set (a b : Ta) (k : Nat) : (⟨(midT a b k).moves.set k (joinR (rw a k) (rw b k)), (midT a b k).used⟩ : Ta) = midT a b (k + 1) := by
  unfold midT
  congr 1
  apply List.ext_getElem
  · simp
  · intro i h1 h2
    rw [List.getElem_set]
    by_cases e : k = i
    · subst e
      rw [if_pos rfl, List.getElem_map, List.getElem_range, if_pos (by omega)]
    · rw [if_neg e, List.getElem_map, List.getElem_map, List.getElem_range]
      by_cases d : i < k
      · rw [if_pos d, if_pos (by omega)]
      · rw [if_neg d, if_neg (by omega)]
end Plain

theorem OwnT.touchM {w w' : World} {B n b bu : Nat} {G C : Nat → Nat} {t : Plain.Ta} (h : OwnT w B n b bu G C t) (i : Nat) (hi : i < n) (r : List Int) (hl : r.length = n) (hr : RowI w' (G i) r) (ht : Touch (G i) w w') :
    OwnT w' B n b bu G C ⟨t.moves.set i r, t.used⟩ := by
  have hrow : ∀ k, Plain.rw ⟨t.moves.set i r, t.used⟩ k = if i = k then r else Plain.rw t k := fun k => by
    show (t.moves.set i _).getD k [] = _
    rw [List.getD_eq_getElem?_getD, List.getElem?_set]
    by_cases e : i = k
    · rw [if_pos e, if_pos (by rw [h.lm]; exact hi), if_pos e]; rfl
    · rw [if_neg e, if_neg e, ← List.getD_eq_getElem?_getD]; rfl
  refine ⟨h.B0, h.Bu, h.Bg, by rw [ht.sz]; exact h.lb, fun k hk => by rw [ht.cell (h.nb i hi).symm]; exact h.c k hk, fun k hk => ?_, h.u.of_block (ht.up _ (h.nu i hi).symm), h.nb, h.nu, h.ub, h.ne, by simpa using h.lm, fun k hk => ?_, h.lt, h.n8⟩
  · rw [hrow]
    by_cases e : i = k
    · subst e
      rw [if_pos rfl]
      exact hr
    · rw [if_neg e]
      exact (h.m k hk).of_block (ht.up _ (h.ne k i hk hi (fun h => e h.symm)))
  · rw [hrow]
    by_cases e : i = k
    · subst e
      rw [if_pos rfl]; exact hl
    · rw [if_neg e]; exact h.lr k hk
theorem OwnT.touchU {w w' : World} {B n b bu : Nat} {G C : Nat → Nat} {t : Plain.Ta} (h : OwnT w B n b bu G C t) (r : List Int) (hl : r.length = n) (hr : RowI w' bu r) (ht : Touch bu w w') :
    OwnT w' B n b bu G C ⟨t.moves, r⟩ :=
  ⟨h.B0, h.Bu, h.Bg, by rw [ht.sz]; exact h.lb, fun k hk => by rw [ht.cell h.ub.symm]; exact h.c k hk, fun k hk => (h.m k hk).of_block (ht.up _ (h.nu k hk)), hr, h.nb, h.nu, h.ub, h.ne, h.lm, h.lr, hl, h.n8⟩
theorem Res.touch {w w' : World} {rb g : Nat} {x y : Value} (h : Res w rb x y) (t : Touch g w w') (hne : rb ≠ g) : Res w' rb x y := (t.up rb hne).trans h

/-- What a function that was handed two tallies has. -/
structure S2 (w0 w : World) (X Y R : Nat) (m1 u1 m2 u2 : Value) (a b : Plain.Ta) : Prop where
  st : St w0 w X m1 u1 a
  h2 : HasT w0 m2 u2 b
  bx : Res w Y m2 u2
  res : Res w R (.slice none 0 0) (.slice none 0 0)
  r0 : w0.heap.size ≤ R
  yR : Y < R
theorem S2.start {w : World} {m1 u1 m2 u2 : Value} {a b : Plain.Ta} (h : HasT w m1 u1 a) (h2 : HasT w m2 u2 b) :
    S2 w (((w.alloc (boxT m1 u1)).alloc (boxT m2 u2)).alloc (.cells #[.slice none 0 0, .slice none 0 0] 25)) w.heap.size (w.heap.size + 1) (w.heap.size + 1 + 1) m1 u1 m2 u2 a b :=
  ⟨((St.start h).step ((Below.refl _ _).alloc (Nat.le_refl _) _)).step ((Below.refl _ _).alloc (Nat.le_refl _) _), h2, by
    have r : Res ((w.alloc (boxT m1 u1)).alloc (boxT m2 u2)) (w.heap.size + 1) m2 u2 := by
      have := Deep.blk_alloc_new (w.alloc (boxT m1 u1)) (boxT m2 u2)
      simp only [World.size_alloc] at this
      exact this
    exact r.below ((Below.refl _ _).alloc (Nat.le_refl _) _) (by simp), by
    have := Deep.blk_alloc_new ((w.alloc (boxT m1 u1)).alloc (boxT m2 u2)) (.cells #[.slice none 0 0, .slice none 0 0] 25)
    simp only [World.size_alloc] at this
    exact this, by omega, by omega⟩
theorem S2.step {w0 w w' : World} {X Y R : Nat} {m1 u1 m2 u2 : Value} {a b : Plain.Ta} (h : S2 w0 w X Y R m1 u1 m2 u2 a b) (g : Below w.heap.size w w') : S2 w0 w' X Y R m1 u1 m2 u2 a b :=
  ⟨h.st.step g, h.h2, h.bx.below g h.bx.lt, h.res.below g h.res.lt, h.r0, h.yR⟩
theorem S2.has2 {w0 w : World} {X Y R : Nat} {m1 u1 m2 u2 : Value} {a b : Plain.Ta} (h : S2 w0 w X Y R m1 u1 m2 u2 a b) : HasT w m2 u2 b := h.h2.grow h.st.bel

set_option maxHeartbeats 1000000 in
theorem merge_form (m1 u1 m2 u2 : Value) (a b : Plain.Ta) (w : World) (h : HasT w m1 u1 a) (h2 : HasT w m2 u2 b) (he : ¬ (Plain.mayT a = true ∧ Plain.mayT b = true)) :
    Calls Try.prog 7 #[aggT m1 u1, aggT m2 u2] w fun e w' => e = .returned (.tuple #[aggT (.slice none 0 0) (.slice none 0 0), .int .i64 4]) ∧ Below w.heap.size w w' := by
  have I0 := hid (S2.start h h2)
  clear h h2
  by_cases ha : Plain.mayT a = true
  · have HA := hid ha
    have HB := hid (show Plain.mayT b = false by cases hb : Plain.mayT b with | false => rfl | true => exact absurd ⟨ha, hb⟩ he)
    clear ha he
    go_enter Try.func7, Try.ntmps7
    go_wp2_with fail
    refine (may_g m1 u1 a _ I0.out.st.has).mono ?_
    rw [HA.out]
    rintro e w1 ⟨rfl, q1, os1, h1⟩
    have I1 := hid (I0.out.step (w' := w1) (by rw [h1]; exact grow_below _ _ _))
    clear h1 I0
    have y0 := I1.out.bx.c0
    have y1 := I1.out.bx.c1
    go_wp2_with fail
    refine (may_g m2 u2 b _ I1.out.has2).mono ?_
    rw [HB.out]
    rintro e w2 ⟨rfl, q2, os2, h2⟩
    have I2 := hid (I1.out.step (w' := w2) (by rw [h2]; exact grow_below _ _ _))
    clear h2 I1 y0 y1
    have d0 := I2.out.res.c0
    have d1 := I2.out.res.c1
    have d2 := I2.out.res.frozen 0
    have d3 := I2.out.res.frozen 1
    have d4 := I2.out.res.lt
    go_wp2
    (try simp only [Exit.inBlock, Exit.then])
    refine bodyPost_ret (v := .tuple #[aggT (.slice none 0 0) (.slice none 0 0), .int .i64 4]) ?_ rfl ⟨rfl, below_res I2.out.st.bel I2.out.r0⟩
    exact results_tally2 (p := 4) (u := 5) rfl _ _ (w.heap.size + 1 + 1) _ _ rfl (I2.out.res.set _ _)
  · have HA := hid (show Plain.mayT a = false by simpa using ha)
    clear ha he
    go_enter Try.func7, Try.ntmps7
    go_wp2_with fail
    refine (may_g m1 u1 a _ I0.out.st.has).mono ?_
    rw [HA.out]
    rintro e w1 ⟨rfl, q1, os1, h1⟩
    have I1 := hid (I0.out.step (w' := w1) (by rw [h1]; exact grow_below _ _ _))
    clear h1 I0
    have d0 := I1.out.res.c0
    have d1 := I1.out.res.c1
    have d2 := I1.out.res.frozen 0
    have d3 := I1.out.res.frozen 1
    have d4 := I1.out.res.lt
    go_wp2
    (try simp only [Exit.inBlock, Exit.then])
    refine bodyPost_ret (v := .tuple #[aggT (.slice none 0 0) (.slice none 0 0), .int .i64 4]) ?_ rfl ⟨rfl, below_res I1.out.st.bel I1.out.r0⟩
    exact results_tally2 (p := 4) (u := 5) rfl _ _ (w.heap.size + 1 + 1) _ _ rfl (I1.out.res.set _ _)

set_option maxHeartbeats 1000000 in
theorem merge_size (m1 u1 m2 u2 : Value) (a b : Plain.Ta) (w : World) (h : HasT w m1 u1 a) (h2 : HasT w m2 u2 b) (ha : Plain.mayT a = true) (hb : Plain.mayT b = true) (he : a.used.length ≠ b.used.length) :
    Calls Try.prog 7 #[aggT m1 u1, aggT m2 u2] w fun e w' => e = .returned (.tuple #[aggT (.slice none 0 0) (.slice none 0 0), .int .i64 1]) ∧ Below w.heap.size w w' := by
  have I0 := hid (S2.start h h2)
  have hne : ((a.used.length : Int) != (b.used.length : Int)) = true := by rw [bne_iff_ne]; omega
  obtain ⟨p1, c1, rfl, _⟩ := h.u.form
  obtain ⟨p2, c2, rfl, _⟩ := h2.u.form
  have HA := hid ha
  have HB := hid hb
  have hz1 := h.u.b
  have hz2 := h2.u.b
  clear ha hb he h h2
  generalize a.used.length = n1 at *
  generalize b.used.length = n2 at *
  go_enter Try.func7, Try.ntmps7
  go_wp2_with fail
  refine (may_g m1 _ a _ I0.out.st.has).mono ?_
  rw [HA.out]
  rintro e w1 ⟨rfl, q1, os1, h1⟩
  have I1 := hid (I0.out.step (w' := w1) (by rw [h1]; exact grow_below _ _ _))
  clear h1 I0
  have y0 := I1.out.bx.c0
  have y1 := I1.out.bx.c1
  go_wp2_with fail
  refine (may_g m2 _ b _ I1.out.has2).mono ?_
  rw [HB.out]
  rintro e w2 ⟨rfl, q2, os2, h2⟩
  have I2 := hid (I1.out.step (w' := w2) (by rw [h2]; exact grow_below _ _ _))
  clear h2 I1 y0 y1
  have y0 := I2.out.bx.c0
  have y1 := I2.out.bx.c1
  have x0 := I2.out.st.x0
  have x1 := I2.out.st.x1
  have d0 := I2.out.res.c0
  have d1 := I2.out.res.c1
  have d2 := I2.out.res.frozen 0
  have d3 := I2.out.res.frozen 1
  have d4 := I2.out.res.lt
  go_wp2
  (try simp only [Exit.inBlock, Exit.then])
  refine bodyPost_ret (v := .tuple #[aggT (.slice none 0 0) (.slice none 0 0), .int .i64 1]) ?_ rfl ⟨rfl, below_res I2.out.st.bel I2.out.r0⟩
  exact results_tally2 (p := 4) (u := 5) rfl _ _ (w.heap.size + 1 + 1) _ _ rfl (I2.out.res.set _ _)

/-- What lies there while rows are raised. -/
structure MI (w0 w : World) (B n b bu cm cu R Hb Y : Nat) (G C : Nat → Nat) (m2 u2 : Value) (t : Plain.Ta) : Prop where
  bel : Below w0.heap.size w0 w
  own : OwnT w B n b bu G C t
  box : Res w Hb (.slice (some ⟨b, 0, none⟩) n cm) (.slice (some ⟨bu, 0, none⟩) n cu)
  by2 : Res w Y m2 u2
  res : Res w R (.slice none 0 0) (.slice none 0 0)
  lo : w0.heap.size ≤ B
  rB : R < B
  yB : Y < B
  r0 : w0.heap.size ≤ R
  hu : bu < Hb
  hg : ∀ i, i < n → G i < Hb
theorem MI.touch {w0 w w' : World} {B n b bu cm cu R Hb Y g : Nat} {G C : Nat → Nat} {m2 u2 : Value} {t t' : Plain.Ta} (h : MI w0 w B n b bu cm cu R Hb Y G C m2 u2 t) (ht : Touch g w w') (hB : B ≤ g) (hH : g < Hb) (ho : OwnT w' B n b bu G C t') : MI w0 w' B n b bu cm cu R Hb Y G C m2 u2 t' :=
  ⟨h.bel.trans (ht.bel.mono (Nat.le_trans h.lo hB)), ho, h.box.touch ht (by omega), h.by2.touch ht (by have := h.yB; omega), h.res.touch ht (by have := h.rB; omega), h.lo, h.rB, h.yB, h.r0, h.hu, h.hg⟩

set_option maxHeartbeats 2000000 in
theorem merge_ok (m1 u1 m2 u2 : Value) (a b : Plain.Ta) (n : Nat) (w : World) (h : HasT w m1 u1 a) (h2 : HasT w m2 u2 b) (sa : Plain.Sq n a) (sb : Plain.Sq n b) :
    Calls Try.prog 7 #[aggT m1 u1, aggT m2 u2] w fun e w' => ∃ x y, e = .returned (.tuple #[aggT x y, .int .i64 0]) ∧ HasP (w.heap.size ≤ ·) w' x y (Plain.mergeT a b) ∧ Below w.heap.size w w' := by
  have I0 := hid (S2.start h h2)
  obtain ⟨p1, c1, rfl, _⟩ := h.u.form
  obtain ⟨ib, io, ic, ibu, iou, icu, IG, IO, IC, rfl, rfl, hc⟩ := h2.open sb
  have H := hid hc
  have HA := hid (show Plain.mayT a = true from Plain.mayT_iff.2 (by rw [sa.u]; exact sa))
  have HB := hid (show Plain.mayT b = true from Plain.mayT_iff.2 (by rw [sb.u]; exact sb))
  have SA := hid sa
  have SB := hid sb
  have n8 := sa.n8
  have e0 := sa.u
  rw [e0] at I0 ⊢
  clear sa sb h h2 hc e0
  go_enter Try.func7, Try.ntmps7
  go_wp2_with fail
  refine (may_g m1 _ a _ I0.out.st.has).mono ?_
  rw [HA.out]
  rintro e w1 ⟨rfl, q1, os1, h1⟩
  have I1 := hid (I0.out.step (w' := w1) (by rw [h1]; exact grow_below _ _ _))
  clear h1 I0
  have y0 := I1.out.bx.c0
  have y1 := I1.out.bx.c1
  go_wp2_with fail
  refine (may_g _ _ b _ I1.out.has2).mono ?_
  rw [HB.out]
  rintro e w2 ⟨rfl, q2, os2, h2⟩
  have I2 := hid (I1.out.step (w' := w2) (by rw [h2]; exact grow_below _ _ _))
  clear h2 I1 y0 y1
  have y0 := I2.out.bx.c0
  have y1 := I2.out.bx.c1
  have x0 := I2.out.st.x0
  have x1 := I2.out.st.x1
  go_wp2_with fail
  refine (copied_c _ _ a n SA.out _ I2.out.st.has).mono ?_
  rintro e w3 ⟨b', bu, cu, G, C, rfl, ow, b3⟩
  clear x0 x1 y0 y1
  have M0 := hid (show MI w (w3.alloc (boxT (.slice (some ⟨b', 0, none⟩) n n) (.slice (some ⟨bu, 0, none⟩) n cu))) w2.heap.size n b' bu n cu (w.heap.size + 1 + 1) w3.heap.size (w.heap.size + 1) G C (.slice (some ⟨ib, io, none⟩) n ic) (.slice (some ⟨ibu, iou, none⟩) n icu) a from
    have J := (I2.out.step b3).step ((Below.refl _ _).alloc (Nat.le_refl _) (boxT (.slice (some ⟨b', 0, none⟩) n n) (.slice (some ⟨bu, 0, none⟩) n cu)))
    ⟨J.st.bel, ow.grow ((Below.refl _ _).alloc (Nat.le_refl _) _), Deep.blk_alloc_new _ _, J.bx, J.res, I2.out.st.bel.size, I2.out.res.lt, by have := I2.out.res.lt; omega, I2.out.r0, ow.u.lt, fun i hi => (ow.m i hi).lt⟩)
  clear ow b3 I2
  have z0 := M0.out.box.c0
  have z1 := M0.out.box.c1
  have y0 := M0.out.by2.c0
  have y1 := M0.out.by2.c1
  have cc := H.out.grow M0.out.bel
  have K := raise_c bu cu ibu iou icu n a.used b.used _ M0.out.own.u SA.out.u n8 (by have := M0.out.own.Bu; have := M0.out.lo; have := H.out.lu; omega) (fun j hj => cc.u j hj)
  clear cc
  go_wp2_with fail
  refine K.mono ?_
  rintro e w5 ⟨rfl, hr5, ht5⟩
  have M1 := hid (M0.out.touch ht5 M0.out.own.Bu M0.out.hu (M0.out.own.touchU _ (by rw [Plain.joinR_len]; exact SA.out.u) hr5 ht5))
  rw [← Plain.mid_zero a b] at M1
  clear z0 z1 y0 y1 K hr5 ht5 M0
  have z0 := M1.out.box.c0
  go_wp2
  clear z0
  go_loopw [36] (fun i wr => ∃ k : Nat, k ≤ n ∧ i = .int .i64 k ∧ MI w wr w2.heap.size n b' bu n cu (w.heap.size + 1 + 1) w3.heap.size (w.heap.size + 1) G C (.slice (some ⟨ib, io, none⟩) n ic) (.slice (some ⟨ibu, iou, none⟩) n icu) (Plain.midT a b k)) (fun i _ => n - (intOf i).toNat)
  case atStart => exact ⟨0, Nat.zero_le _, rfl, M1.out⟩
  case round =>
    obtain ⟨k, hk, rfl, hm⟩ := hrel
    have M := hid hm
    clear hm M1
    by_cases hlt : k < n
    · have hlt' : (k : Int) < (n : Int) := by omega
      have c1 := M.out.own.c k hlt
      have y0 := M.out.by2.c0
      have cc := H.out.grow M.out.bel
      have c2 := cc.c k hlt
      have hra : Plain.rw (Plain.midT a b k) k = Plain.rw a k := by rw [Plain.rw_mid _ _ _ _ (by rw [SA.out.m]; exact hlt), if_neg (Nat.lt_irrefl _)]
      have hrow := M.out.own.m k hlt
      rw [hra] at hrow
      have K := raise_c (G k) (C k) (IG k) (IO k) (IC k) n (Plain.rw a k) (Plain.rw b k) wr hrow (SA.out.r k hlt) n8 (by have := M.out.own.Bg k hlt; have := M.out.lo; have := H.out.lg k hlt; omega) (fun j hj => cc.m k j hlt hj)
      clear cc hra hrow
      go_wp2_with fail
      refine K.mono ?_
      rintro e w6 ⟨rfl, hr6, ht6⟩
      have NX := hid (M.out.touch ht6 (M.out.own.Bg k hlt) (M.out.hg k hlt) (M.out.own.touchM k hlt _ (by rw [Plain.joinR_len]; exact SA.out.r k hlt) hr6 ht6))
      rw [Plain.mid_set a b k] at NX
      clear K c1 c2 y0 hr6 ht6
      go_wp2
      go_roundw
      case rel => exact ⟨k + 1, by omega, by go_num, NX.out⟩
      case measure => simp [intOf]; omega
    · have ek : k = n := by omega
      have hnlt : ¬ (k : Int) < (n : Int) := by omega
      have OW := hid (show OwnT wr w2.heap.size n b' bu G C (Plain.mergeT a b) by have := M.out.own; rwa [ek, ← SA.out.m, Plain.mid_all, SA.out.m] at this)
      have NB := hid (show w.heap.size + 1 + 1 ≠ b' ∧ w.heap.size + 1 + 1 ≠ bu ∧ (∀ i, i < n → w.heap.size + 1 + 1 ≠ G i) from ⟨by have := M.out.rB; have := M.out.own.B0; omega, by have := M.out.rB; have := M.out.own.Bu; omega, fun i hi => by have := M.out.rB; have := M.out.own.Bg i hi; omega⟩)
      have z0 := M.out.box.c0
      have z1 := M.out.box.c1
      have d0 := M.out.res.c0
      have d1 := M.out.res.c1
      have d2 := M.out.res.frozen 0
      have d3 := M.out.res.frozen 1
      have d4 := M.out.res.lt
      clear ek
      go_wp2
      (try simp only [Exit.inBlock, Exit.then])
      refine bodyPost_ret (v := .tuple #[aggT (.slice (some ⟨b', 0, none⟩) n n) (.slice (some ⟨bu, 0, none⟩) n cu), .int .i64 0]) ?_ rfl ⟨_, _, rfl, ((OW.out.base M.out.lo).res _ _ NB.out.1 NB.out.2.1 NB.out.2.2).hasP _ _, below_res M.out.bel M.out.r0⟩
      exact results_tally2 (p := 4) (u := 5) rfl _ _ (w.heap.size + 1 + 1) _ _ rfl (M.out.res.set _ _)

/-- tally.Merge, whatever it is handed. -/
theorem merge_any (m1 u1 m2 u2 : Value) (a b : Plain.Ta) (w : World) (h : HasT w m1 u1 a) (h2 : HasT w m2 u2 b) :
    Calls Try.prog 7 #[aggT m1 u1, aggT m2 u2] w fun e w' => ∃ x y, e = .returned (.tuple #[aggT x y, .int .i64 (Plain.mergeE a b : Nat)]) ∧ HasP (w.heap.size ≤ ·) w' x y (Plain.mergeV a b) ∧ Below w.heap.size w w' := by
  by_cases hm : Plain.mayT a = true ∧ Plain.mayT b = true
  · by_cases hs : a.used.length = b.used.length
    · have e1 : Plain.mergeE a b = 0 := by unfold Plain.mergeE; rw [if_pos hm, if_pos hs]
      have e2 : Plain.mergeV a b = Plain.mergeT a b := by unfold Plain.mergeV; rw [if_pos e1]
      rw [e1, e2]
      exact merge_ok m1 u1 m2 u2 a b _ w h h2 (Plain.mayT_iff.1 hm.1) (hs ▸ Plain.mayT_iff.1 hm.2)
    · have e1 : Plain.mergeE a b = 1 := by unfold Plain.mergeE; rw [if_pos hm, if_neg hs]
      have e2 : Plain.mergeV a b = ⟨[], []⟩ := by unfold Plain.mergeV; rw [if_neg (by rw [e1]; omega)]
      rw [e1, e2]
      exact (merge_size m1 u1 m2 u2 a b w h h2 hm.1 hm.2 hs).mono fun e w' ⟨h1, h2⟩ => ⟨_, _, h1, HasP.nil _ _, h2⟩
  · have e1 : Plain.mergeE a b = 4 := by unfold Plain.mergeE; rw [if_neg hm]
    have e2 : Plain.mergeV a b = ⟨[], []⟩ := by unfold Plain.mergeV; rw [if_neg (by rw [e1]; omega)]
    rw [e1, e2]
    exact (merge_form m1 u1 m2 u2 a b w h h2 hm).mono fun e w' ⟨h1, h2⟩ => ⟨_, _, h1, HasP.nil _ _, h2⟩
end Go.Proofs.Ytcdlgpickjiikag
