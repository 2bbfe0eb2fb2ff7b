/-
  A contract of the document's answer to Merge.
-/
import Derived.Test.YtcdlgpickjiikagTmg
import Derived.Test.YtcdlgpickjiikagTow
namespace Go.Proofs.Ytcdlgpickjiikag
open Go.RowKit Go.Sort

set_option maxHeartbeats 1000000 in
theorem rmerge_form (m1 u1 m2 u2 : Value) (a b : Plain.Ta) (w : World) (h : HasT w m1 u1 a) (h2 : HasT w m2 u2 b) (he : ¬ (Plain.mayT a = true ∧ Plain.mayT b = true)) :
    Calls Try.prog 8 #[aggT m1 u1, aggT m2 u2] w fun e w' => e = .returned (.tuple #[aggT (.slice none 0 0) (.slice none 0 0), .int .i64 4]) ∧ Below w.heap.size w w' := by
  have I0 := hid (S2.start h h2)
  clear h h2
  by_cases ha : Plain.mayT a = true
  · have HA := hid ha
    have HB := hid (show Plain.mayT b = false by cases hb : Plain.mayT b with | false => rfl | true => exact absurd ⟨ha, hb⟩ he)
    clear ha he
    go_enter Try.func8, Try.ntmps8
    go_wp2_with fail
    refine (rmay_g m1 u1 a _ I0.out.st.has).mono ?_
    rw [HA.out]
    rintro e w1 ⟨rfl, q1, os1, h1⟩
    have I1 := hid (I0.out.step (w' := w1) (by rw [h1]; exact grow_below _ _ _))
    clear h1 I0
    have y0 := I1.out.bx.c0
    have y1 := I1.out.bx.c1
    go_wp2_with fail
    refine (rmay_g m2 u2 b _ I1.out.has2).mono ?_
    rw [HB.out]
    rintro e w2 ⟨rfl, q2, os2, h2⟩
    have I2 := hid (I1.out.step (w' := w2) (by rw [h2]; exact grow_below _ _ _))
    clear h2 I1 y0 y1
    have d0 := I2.out.res.c0
    have d1 := I2.out.res.c1
    have d2 := I2.out.res.frozen 0
    have d3 := I2.out.res.frozen 1
    have d4 := I2.out.res.lt
    go_wp2
    (try simp only [Exit.inBlock, Exit.then])
    refine bodyPost_ret (v := .tuple #[aggT (.slice none 0 0) (.slice none 0 0), .int .i64 4]) ?_ rfl ⟨rfl, below_res I2.out.st.bel I2.out.r0⟩
    exact results_tally2 (p := 4) (u := 5) rfl _ _ (w.heap.size + 1 + 1) _ _ rfl (I2.out.res.set _ _)
  · have HA := hid (show Plain.mayT a = false by simpa using ha)
    clear ha he
    go_enter Try.func8, Try.ntmps8
    go_wp2_with fail
    refine (rmay_g m1 u1 a _ I0.out.st.has).mono ?_
    rw [HA.out]
    rintro e w1 ⟨rfl, q1, os1, h1⟩
    have I1 := hid (I0.out.step (w' := w1) (by rw [h1]; exact grow_below _ _ _))
    clear h1 I0
    have d0 := I1.out.res.c0
    have d1 := I1.out.res.c1
    have d2 := I1.out.res.frozen 0
    have d3 := I1.out.res.frozen 1
    have d4 := I1.out.res.lt
    go_wp2
    (try simp only [Exit.inBlock, Exit.then])
    refine bodyPost_ret (v := .tuple #[aggT (.slice none 0 0) (.slice none 0 0), .int .i64 4]) ?_ rfl ⟨rfl, below_res I1.out.st.bel I1.out.r0⟩
    exact results_tally2 (p := 4) (u := 5) rfl _ _ (w.heap.size + 1 + 1) _ _ rfl (I1.out.res.set _ _)

set_option maxHeartbeats 1000000 in
theorem rmerge_size (m1 u1 m2 u2 : Value) (a b : Plain.Ta) (w : World) (h : HasT w m1 u1 a) (h2 : HasT w m2 u2 b) (ha : Plain.mayT a = true) (hb : Plain.mayT b = true) (he : a.used.length ≠ b.used.length) :
    Calls Try.prog 8 #[aggT m1 u1, aggT m2 u2] w fun e w' => e = .returned (.tuple #[aggT (.slice none 0 0) (.slice none 0 0), .int .i64 1]) ∧ Below w.heap.size w w' := by
  have I0 := hid (S2.start h h2)
  have hne : ((a.used.length : Int) != (b.used.length : Int)) = true := by rw [bne_iff_ne]; omega
  obtain ⟨p1, c1, rfl, _⟩ := h.u.form
  obtain ⟨p2, c2, rfl, _⟩ := h2.u.form
  have HA := hid ha
  have HB := hid hb
  have hz1 := h.u.b
  have hz2 := h2.u.b
  clear ha hb he h h2
  generalize a.used.length = n1 at *
  generalize b.used.length = n2 at *
  go_enter Try.func8, Try.ntmps8
  go_wp2_with fail
  refine (rmay_g m1 _ a _ I0.out.st.has).mono ?_
  rw [HA.out]
  rintro e w1 ⟨rfl, q1, os1, h1⟩
  have I1 := hid (I0.out.step (w' := w1) (by rw [h1]; exact grow_below _ _ _))
  clear h1 I0
  have y0 := I1.out.bx.c0
  have y1 := I1.out.bx.c1
  go_wp2_with fail
  refine (rmay_g m2 _ b _ I1.out.has2).mono ?_
  rw [HB.out]
  rintro e w2 ⟨rfl, q2, os2, h2⟩
  have I2 := hid (I1.out.step (w' := w2) (by rw [h2]; exact grow_below _ _ _))
  clear h2 I1 y0 y1
  have y0 := I2.out.bx.c0
  have y1 := I2.out.bx.c1
  have x0 := I2.out.st.x0
  have x1 := I2.out.st.x1
  have d0 := I2.out.res.c0
  have d1 := I2.out.res.c1
  have d2 := I2.out.res.frozen 0
  have d3 := I2.out.res.frozen 1
  have d4 := I2.out.res.lt
  go_wp2
  (try simp only [Exit.inBlock, Exit.then])
  refine bodyPost_ret (v := .tuple #[aggT (.slice none 0 0) (.slice none 0 0), .int .i64 1]) ?_ rfl ⟨rfl, below_res I2.out.st.bel I2.out.r0⟩
  exact results_tally2 (p := 4) (u := 5) rfl _ _ (w.heap.size + 1 + 1) _ _ rfl (I2.out.res.set _ _)


namespace Plain
/-- Merged up to a row, and in it up to a number. -/
def gT (a b : Ta) (k u j : Nat) : Ta := ⟨(List.range a.moves.length).map fun i => if i < k then joinR (rw a i) (rw b i) else if i = k then upTo (rw a i) (rw b i) j else rw a i, upTo a.used b.used u⟩
theorem rw_g (a b : Ta) (k u j i : Nat) (h : i < a.moves.length) : rw (gT a b k u j) i = if i < k then joinR (rw a i) (rw b i) else if i = k then upTo (rw a i) (rw b i) j else rw a i := by
  show ((List.range a.moves.length).map fun i => if i < k then joinR (rw a i) (rw b i) else if i = k then upTo (rw a i) (rw b i) j else rw a i).getD i [] = _
  rw [getD_lt _ _ _ (by simpa using h), List.getElem_map, List.getElem_range]
theorem upTo_same (a b : List Int) (k : Nat) (h : ¬ a.getD k 0 < b.getD k 0) : upTo a b (k + 1) = upTo a b k := ext_getD (by rw [upTo_len, upTo_len]) fun j hj => by
  rw [upTo_len] at hj
  rw [upTo_at _ _ _ _ hj, upTo_at _ _ _ _ hj]
  by_cases e : j = k
  · subst e; rw [if_pos (by omega), if_neg (by omega)]; omega
  · by_cases d : j < k
    · rw [if_pos d, if_pos (by omega)]
    · rw [if_neg d, if_neg (by omega)]
theorem ext_rows {l m : List (List Int)} (hl : l.length = m.length) (h : ∀ i, i < l.length → l.getD i [] = m.getD i []) : l = m := by
  apply List.ext_getElem hl
  intro i h1 h2
  have := h i h1
  rwa [getD_lt l i [] h1, getD_lt m i [] h2] at this
theorem g_start (a b : Ta) (ha : a.moves.length = a.used.length) : gT a b 0 0 0 = a := by
  obtain ⟨am, au⟩ := a
  unfold gT
  congr 1
  · refine ext_rows (by simp) fun i hi => ?_
    have hi' : i < am.length := by simpa using hi
    rw [getD_lt _ _ _ hi, List.getElem_map, List.getElem_range, if_neg (by omega)]
    by_cases e : i = 0
    · rw [if_pos e, upTo_zero]; rfl
    · rw [if_neg e]; rfl
  · exact upTo_zero _ _
theorem g_used (a b : Ta) (k : Nat) (hk : k < a.used.length) : (⟨(gT a b k k 0).moves, (gT a b k k 0).used.set k (max (a.used.getD k 0) (b.used.getD k 0))⟩ : Ta) = gT a b k (k + 1) 0 := by
  unfold gT
  simp only []
  rw [upTo_set _ _ _ hk]
theorem g_used_no (a b : Ta) (k : Nat) (h : ¬ a.used.getD k 0 < b.used.getD k 0) : gT a b k (k + 1) 0 = gT a b k k 0 := by
  unfold gT
  rw [upTo_same _ _ _ h]
theorem g_row (a b : Ta) (k u j : Nat) (hk : k < a.moves.length) (hj : j < (rw a k).length) : (⟨(gT a b k u j).moves.set k ((rw (gT a b k u j) k).set j (max ((rw a k).getD j 0) ((rw b k).getD j 0))), (gT a b k u j).used⟩ : Ta) = gT a b k u (j + 1) := by
  rw [rw_g _ _ _ _ _ _ hk, if_neg (Nat.lt_irrefl _), if_pos rfl, upTo_set _ _ _ hj]
  unfold gT
  congr 1
  apply List.ext_getElem
  · simp
  · intro i h1 h2
    rw [List.getElem_set]
    by_cases e : k = i
    · subst e
      rw [if_pos rfl, List.getElem_map, List.getElem_range, if_neg (Nat.lt_irrefl _), if_pos rfl]
    · rw [if_neg e, List.getElem_map, List.getElem_map, List.getElem_range]
      by_cases d : i < k
      · rw [if_pos d, if_pos d]
      · rw [if_neg d, if_neg d, if_neg (fun h => e h.symm), if_neg (fun h => e h.symm)]
theorem g_row_no (a b : Ta) (k u j : Nat) (h : ¬ (rw a k).getD j 0 < (rw b k).getD j 0) : gT a b k u (j + 1) = gT a b k u j := by
  unfold gT
  congr 1
  apply List.map_congr_left
  intro i _
  by_cases d : i < k
  · rw [if_pos d, if_pos d]
  · rw [if_neg d, if_neg d]
    by_cases e : i = k
    · subst e
      rw [if_pos rfl, if_pos rfl, upTo_same _ _ _ h]
    · rw [if_neg e, if_neg e]
theorem g_next (a b : Ta) (k : Nat) (u n : Nat) (hk : (rw a k).length = n) : gT a b k u n = gT a b (k + 1) u 0 := by
  unfold gT
  congr 1
  apply List.map_congr_left
  intro i _
  by_cases d : i < k
  · rw [if_pos d, if_pos (by omega)]
  · rw [if_neg d]
    by_cases e : i = k
    · subst e
      rw [if_pos rfl, if_pos (by omega), ← hk, upTo_all]
    · rw [if_neg e, if_neg (by omega)]
      by_cases f : i = k + 1
      · rw [if_pos f, upTo_zero]
      · rw [if_neg f]
theorem g_all (a b : Ta) (n : Nat) (h1 : a.moves.length = n) (h2 : a.used.length = n) : gT a b n n 0 = mergeT a b := by
  unfold gT mergeT
  congr 1
  · apply List.map_congr_left
    intro i hi
    have := List.mem_range.1 hi
    rw [if_pos (by omega)]
  · rw [← h2, upTo_all]
end Plain

/-- What lies there while numbers are raised. -/
structure MJ (w0 w : World) (B n b bu cm cu R Hb X Y : Nat) (G C : Nat → Nat) (m1 u1 m2 u2 : Value) (t : Plain.Ta) : Prop where
  mi : MI w0 w B n b bu cm cu R Hb Y G C m2 u2 t
  x0 : w.cell? ⟨X, 0, none⟩ = some m1
  x1 : w.cell? ⟨X, 1, none⟩ = some u1
  xl : X < w.heap.size
  xB : X < B
theorem MJ.step {w0 w w' : World} {B n b bu cm cu R Hb X Y : Nat} {G C : Nat → Nat} {m1 u1 m2 u2 : Value} {t : Plain.Ta} (h : MJ w0 w B n b bu cm cu R Hb X Y G C m1 u1 m2 u2 t) (g : Below w.heap.size w w') : MJ w0 w' B n b bu cm cu R Hb X Y G C m1 u1 m2 u2 t :=
  ⟨⟨h.mi.bel.trans (g.mono h.mi.bel.size), h.mi.own.grow g, h.mi.box.below g h.mi.box.lt, h.mi.by2.below g h.mi.by2.lt, h.mi.res.below g h.mi.res.lt, h.mi.lo, h.mi.rB, h.mi.yB, h.mi.r0, h.mi.hu, h.mi.hg⟩, (g.cell (p := ⟨X, 0, none⟩) h.xl).trans h.x0, (g.cell (p := ⟨X, 1, none⟩) h.xl).trans h.x1, Nat.lt_of_lt_of_le h.xl g.size, h.xB⟩
theorem MJ.set {w0 w : World} {B n b bu cm cu R Hb X Y g i : Nat} {v : Value} {G C : Nat → Nat} {m1 u1 m2 u2 : Value} {t t' : Plain.Ta} (h : MJ w0 w B n b bu cm cu R Hb X Y G C m1 u1 m2 u2 t) (hB : B ≤ g) (hH : g < Hb) (ho : OwnT (w.setCell ⟨g, i, none⟩ v) B n b bu G C t') :
    MJ w0 (w.setCell ⟨g, i, none⟩ v).drew B n b bu cm cu R Hb X Y G C m1 u1 m2 u2 t' :=
  MJ.step ⟨h.mi.touch ((Touch.refl g w).set i v) hB hH ho, (((Touch.refl g w).set i v).cell (by have := h.xB; omega)).trans h.x0, (((Touch.refl g w).set i v).cell (by have := h.xB; omega)).trans h.x1, by rw [((Touch.refl g w).set i v).sz]; exact h.xl, h.xB⟩ (Below.refl _ _).drew

set_option maxHeartbeats 4000000 in
theorem rmerge_ok (m1 u1 m2 u2 : Value) (a b : Plain.Ta) (n : Nat) (w : World) (h : HasT w m1 u1 a) (h2 : HasT w m2 u2 b) (sa : Plain.Sq n a) (sb : Plain.Sq n b) :
    Calls Try.prog 8 #[aggT m1 u1, aggT m2 u2] w fun e w' => ∃ x y, e = .returned (.tuple #[aggT x y, .int .i64 0]) ∧ HasP (w.heap.size ≤ ·) w' x y (Plain.mergeT a b) ∧ Below w.heap.size w w' := by
  have I0 := hid (S2.start h h2)
  obtain ⟨jb, jo, jc, jbu, jou, jcu, JG, JO, JC, rfl, rfl, hc1⟩ := h.open sa
  obtain ⟨ib, io, ic, ibu, iou, icu, IG, IO, IC, rfl, rfl, hc⟩ := h2.open sb
  have H1 := hid hc1
  have H := hid hc
  have HA := hid (show Plain.mayT a = true from Plain.mayT_iff.2 (by rw [sa.u]; exact sa))
  have HB := hid (show Plain.mayT b = true from Plain.mayT_iff.2 (by rw [sb.u]; exact sb))
  have SA := hid sa
  have SB := hid sb
  have n8 := sa.n8
  clear sa sb h h2 hc hc1
  go_enter Try.func8, Try.ntmps8
  go_wp2_with fail
  refine (rmay_g _ _ a _ I0.out.st.has).mono ?_
  rw [HA.out]
  rintro e w1 ⟨rfl, q1, os1, h1⟩
  have I1 := hid (I0.out.step (w' := w1) (by rw [h1]; exact grow_below _ _ _))
  clear h1 I0
  have y0 := I1.out.bx.c0
  have y1 := I1.out.bx.c1
  go_wp2_with fail
  refine (rmay_g _ _ b _ I1.out.has2).mono ?_
  rw [HB.out]
  rintro e w2 ⟨rfl, q2, os2, h2⟩
  have I2 := hid (I1.out.step (w' := w2) (by rw [h2]; exact grow_below _ _ _))
  clear h2 I1 y0 y1
  have y0 := I2.out.bx.c0
  have y1 := I2.out.bx.c1
  have x0 := I2.out.st.x0
  have x1 := I2.out.st.x1
  go_wp2_with fail
  refine (own_c _ _ a n SA.out _ I2.out.st.has).mono ?_
  rintro e w3 ⟨b', bu, cb, cu, G, C, rfl, ow, b3⟩
  clear x0 x1 y0 y1
  have M0 := hid (show MJ w (w3.alloc (boxT (.slice (some ⟨b', 0, none⟩) n cb) (.slice (some ⟨bu, 0, none⟩) n cu))) w2.heap.size n b' bu cb cu (w.heap.size + 1 + 1) w3.heap.size w.heap.size (w.heap.size + 1) G C (.slice (some ⟨jb, jo, none⟩) n jc) (.slice (some ⟨jbu, jou, none⟩) n jcu) (.slice (some ⟨ib, io, none⟩) n ic) (.slice (some ⟨ibu, iou, none⟩) n icu) (Plain.gT a b 0 0 0) from by
    have J := (I2.out.step b3).step ((Below.refl _ _).alloc (Nat.le_refl _) (boxT (.slice (some ⟨b', 0, none⟩) n cb) (.slice (some ⟨bu, 0, none⟩) n cu)))
    rw [Plain.g_start a b (by rw [SA.out.m, SA.out.u])]
    exact ⟨⟨J.st.bel, ow.grow ((Below.refl _ _).alloc (Nat.le_refl _) _), Deep.blk_alloc_new _ _, J.bx, J.res, I2.out.st.bel.size, I2.out.res.lt, by have := I2.out.res.lt; omega, I2.out.r0, ow.u.lt, fun i hi => (ow.m i hi).lt⟩, J.st.x0, J.st.x1, J.st.lt, by have := I2.out.res.lt; omega⟩)
  clear ow b3 I2
  have x0 := M0.out.x0
  have x1 := M0.out.x1
  go_wp2
  clear x0 x1
  go_loopw [31] (fun i wr => ∃ k : Nat, k ≤ n ∧ i = .int .i64 k ∧ MJ w wr w2.heap.size n b' bu cb cu (w.heap.size + 1 + 1) w3.heap.size w.heap.size (w.heap.size + 1) G C (.slice (some ⟨jb, jo, none⟩) n jc) (.slice (some ⟨jbu, jou, none⟩) n jcu) (.slice (some ⟨ib, io, none⟩) n ic) (.slice (some ⟨ibu, iou, none⟩) n icu) (Plain.gT a b k k 0)) (fun i _ => n - (intOf i).toNat)
  case atStart => exact ⟨0, Nat.zero_le _, rfl, M0.out⟩
  case round =>
    obtain ⟨k, hk, rfl, hm⟩ := hrel
    have M := hid hm
    clear hm M0
    by_cases hlt : k < n
    · have hlt' : (k : Int) < (n : Int) := by omega
      have c1 := H1.out.grow M.out.mi.bel
      have c2 := H.out.grow M.out.mi.bel
      have r1 := c1.u k hlt
      have r2 := c2.u k hlt
      clear c1 c2
      have x1 := M.out.x1
      have y1 := M.out.mi.by2.c1
      have UN := hid (fun h => Plain.g_used_no a b k h)
      have US := hid (Plain.g_used a b k (by rw [SA.out.u]; exact hlt))
      by_cases hu : a.used.getD k 0 < b.used.getD k 0
      · have r1' : wr.cell? ⟨jbu, jou + k, none⟩ = some (.int .i64 (a.used.getD k 0)) := r1
        have r2' : wr.cell? ⟨ibu, iou + k, none⟩ = some (.int .i64 (b.used.getD k 0)) := r2
        have MX := hid (show max (a.used.getD k 0) (b.used.getD k 0) = b.used.getD k 0 by omega)
        clear r1 r2
        generalize hpx : a.used.getD k 0 = px at *
        generalize hpy : b.used.getD k 0 = py at *
        have HPY := hid hpy
        clear hpx hpy
        go_wp2
        go_quiet (fail)
        obtain ⟨W, hW⟩ : ∃ W, W = wr.drewN nq := ⟨_, rfl⟩
        have MW := hid (M.out.step (w' := W) (by rw [hW]; exact grow_below wr nq #[]))
        rw [← hW]
        clear hW M r1' r2' x1 y1
        have z1 := MW.out.mi.box.c1
        have y1 := MW.out.mi.by2.c1
        have r2 : W.cell? ⟨ibu, iou + k, none⟩ = some (.int .i64 (b.used.getD k 0)) := (H.out.grow MW.out.mi.bel).u k hlt
        rw [HPY.out] at r2
        have u1 := MW.out.mi.own.u.cell (i := k) (by rw [MW.out.mi.own.lt]; exact hlt)
        have u2 := MW.out.mi.own.u.frozen k
        have u3 := MW.out.mi.own.u.lt
        have NX := hid (MW.out.set MW.out.mi.own.Bu MW.out.mi.hu (MW.out.mi.own.setU k hlt py))
        go_wp2
        go_region
        obtain ⟨W2, hW2⟩ : ∃ W2, W2 = (W.setCell ⟨bu, k, none⟩ (.int .i64 py)).drew := ⟨_, rfl⟩
        rw [← hW2] at NX ⊢
        have MI := hid (show MJ w W2 w2.heap.size n b' bu cb cu (w.heap.size + 1 + 1) w3.heap.size w.heap.size (w.heap.size + 1) G C (.slice (some ⟨jb, jo, none⟩) n jc) (.slice (some ⟨jbu, jou, none⟩) n jcu) (.slice (some ⟨ib, io, none⟩) n ic) (.slice (some ⟨ibu, iou, none⟩) n icu) (Plain.gT a b k (k + 1) 0) by rw [← US.out, MX.out]; exact NX.out)
        clear hW2 z1 y1 r2 u1 u2 u3 MW NX US UN HPY MX
        have x1 := MI.out.x1
        go_wp2
        clear x1
        go_loopw [57] (fun i wr => ∃ j : Nat, j ≤ n ∧ i = .int .i64 j ∧ MJ w wr w2.heap.size n b' bu cb cu (w.heap.size + 1 + 1) w3.heap.size w.heap.size (w.heap.size + 1) G C (.slice (some ⟨jb, jo, none⟩) n jc) (.slice (some ⟨jbu, jou, none⟩) n jcu) (.slice (some ⟨ib, io, none⟩) n ic) (.slice (some ⟨ibu, iou, none⟩) n icu) (Plain.gT a b k (k + 1) j)) (fun i _ => n - (intOf i).toNat)
        case atStart => exact ⟨0, Nat.zero_le _, rfl, MI.out⟩
        case round =>
          obtain ⟨j, hj, rfl, hm⟩ := hrel
          have M := hid hm
          clear hm MI
          by_cases hlj : j < n
          · have hlj' : (j : Int) < (n : Int) := by omega
            have RN := hid (fun h => Plain.g_row_no a b k (k + 1) j h)
            have RS := hid (Plain.g_row a b k (k + 1) j (by rw [SA.out.m]; exact hlt) (by rw [SA.out.r k hlt]; exact hlj))
            have q1 := (H1.out.grow M.out.mi.bel).c k hlt
            have q2 : wr.cell? ⟨JG k, JO k + j, none⟩ = some (.int .i64 ((Plain.rw a k).getD j 0)) := (H1.out.grow M.out.mi.bel).m k j hlt hlj
            have q3 := (H.out.grow M.out.mi.bel).c k hlt
            have q4 : wr.cell? ⟨IG k, IO k + j, none⟩ = some (.int .i64 ((Plain.rw b k).getD j 0)) := (H.out.grow M.out.mi.bel).m k j hlt hlj
            have x0 := M.out.x0
            have y0 := M.out.mi.by2.c0
            by_cases hu2 : (Plain.rw a k).getD j 0 < (Plain.rw b k).getD j 0
            · have MX := hid (show max ((Plain.rw a k).getD j 0) ((Plain.rw b k).getD j 0) = (Plain.rw b k).getD j 0 by omega)
              generalize hpx : (Plain.rw a k).getD j 0 = px at *
              generalize hpy : (Plain.rw b k).getD j 0 = py at *
              have HPY := hid hpy
              clear hpx hpy
              go_wp2
              go_quiet (fail)
              obtain ⟨W, hW⟩ : ∃ W, W = wr.drewN nq := ⟨_, rfl⟩
              have MW := hid (M.out.step (w' := W) (by rw [hW]; exact grow_below wr nq #[]))
              rw [← hW]
              clear hW M q1 q2 q3 q4 x0 y0
              have z0 := MW.out.mi.box.c0
              have y0 := MW.out.mi.by2.c0
              have q3 := (H.out.grow MW.out.mi.bel).c k hlt
              have q4 : W.cell? ⟨IG k, IO k + j, none⟩ = some (.int .i64 ((Plain.rw b k).getD j 0)) := (H.out.grow MW.out.mi.bel).m k j hlt hlj
              rw [HPY.out] at q4
              have q5 := MW.out.mi.own.c k hlt
              have u1 := (MW.out.mi.own.m k hlt).cell (i := j) (by rw [MW.out.mi.own.lr k hlt]; exact hlj)
              have u2 := (MW.out.mi.own.m k hlt).frozen j
              have u3 := (MW.out.mi.own.m k hlt).lt
              have NX := hid (MW.out.set (MW.out.mi.own.Bg k hlt) (MW.out.mi.hg k hlt) (MW.out.mi.own.setM k j hlt hlj py))
              go_wp2
              go_region
              obtain ⟨W2, hW2⟩ : ∃ W2, W2 = (W.setCell ⟨G k, j, none⟩ (.int .i64 py)).drew := ⟨_, rfl⟩
              rw [← hW2] at NX ⊢
              have MI := hid (show MJ w W2 w2.heap.size n b' bu cb cu (w.heap.size + 1 + 1) w3.heap.size w.heap.size (w.heap.size + 1) G C (.slice (some ⟨jb, jo, none⟩) n jc) (.slice (some ⟨jbu, jou, none⟩) n jcu) (.slice (some ⟨ib, io, none⟩) n ic) (.slice (some ⟨ibu, iou, none⟩) n icu) (Plain.gT a b k (k + 1) (j + 1)) by rw [← RS.out, MX.out]; exact NX.out)
              clear hW2 z0 y0 q3 q4 q5 u1 u2 u3 MW NX RS RN HPY MX
              go_wp2
              go_roundw
              case rel => exact ⟨j + 1, by omega, by go_num, MI.out⟩
              case measure => simp [intOf]; omega
            · have MI0 := hid M.out
              rw [← RN.out hu2] at MI0
              generalize (Plain.rw a k).getD j 0 = px at *
              generalize (Plain.rw b k).getD j 0 = py at *
              go_wp2
              go_quiet (fail)
              obtain ⟨W3, hW⟩ : ∃ W3, W3 = wr.drewN nq := ⟨_, rfl⟩
              have MI := hid (MI0.out.step (w' := W3) (by rw [hW]; exact grow_below wr nq #[]))
              rw [← hW]
              clear hW M q1 q2 q3 q4 x0 y0 MI0 RS RN
              go_wp2
              go_roundw
              case rel => exact ⟨j + 1, by omega, by go_num, MI.out⟩
              case measure => simp [intOf]; omega
          · have ej : j = n := by omega
            have hnj : ¬ (j : Int) < (n : Int) := by omega
            have NX := hid (show MJ w wr w2.heap.size n b' bu cb cu (w.heap.size + 1 + 1) w3.heap.size w.heap.size (w.heap.size + 1) G C (.slice (some ⟨jb, jo, none⟩) n jc) (.slice (some ⟨jbu, jou, none⟩) n jcu) (.slice (some ⟨ib, io, none⟩) n ic) (.slice (some ⟨ibu, iou, none⟩) n icu) (Plain.gT a b (k + 1) (k + 1) 0) by have := M.out; rwa [ej, Plain.g_next a b k (k + 1) n (SA.out.r k hlt)] at this)
            clear ej
            go_wp2
            go_roundw
            case rel => exact ⟨k + 1, by omega, by go_num, NX.out⟩
            case measure => simp [intOf]; omega
      · have r1' : wr.cell? ⟨jbu, jou + k, none⟩ = some (.int .i64 (a.used.getD k 0)) := r1
        have r2' : wr.cell? ⟨ibu, iou + k, none⟩ = some (.int .i64 (b.used.getD k 0)) := r2
        have MI0 := hid M.out
        rw [← UN.out hu] at MI0
        clear r1 r2
        generalize a.used.getD k 0 = px at *
        generalize b.used.getD k 0 = py at *
        go_wp2
        go_quiet (fail)
        obtain ⟨W2, hW⟩ : ∃ W2, W2 = wr.drewN nq := ⟨_, rfl⟩
        have MI := hid (MI0.out.step (w' := W2) (by rw [hW]; exact grow_below wr nq #[]))
        rw [← hW]
        clear hW M r1' r2' x1 y1 MI0 US UN
        have x1 := MI.out.x1
        go_wp2
        clear x1
        go_loopw [57] (fun i wr => ∃ j : Nat, j ≤ n ∧ i = .int .i64 j ∧ MJ w wr w2.heap.size n b' bu cb cu (w.heap.size + 1 + 1) w3.heap.size w.heap.size (w.heap.size + 1) G C (.slice (some ⟨jb, jo, none⟩) n jc) (.slice (some ⟨jbu, jou, none⟩) n jcu) (.slice (some ⟨ib, io, none⟩) n ic) (.slice (some ⟨ibu, iou, none⟩) n icu) (Plain.gT a b k (k + 1) j)) (fun i _ => n - (intOf i).toNat)
        case atStart => exact ⟨0, Nat.zero_le _, rfl, MI.out⟩
        case round =>
          obtain ⟨j, hj, rfl, hm⟩ := hrel
          have M := hid hm
          clear hm MI
          by_cases hlj : j < n
          · have hlj' : (j : Int) < (n : Int) := by omega
            have RN := hid (fun h => Plain.g_row_no a b k (k + 1) j h)
            have RS := hid (Plain.g_row a b k (k + 1) j (by rw [SA.out.m]; exact hlt) (by rw [SA.out.r k hlt]; exact hlj))
            have q1 := (H1.out.grow M.out.mi.bel).c k hlt
            have q2 : wr.cell? ⟨JG k, JO k + j, none⟩ = some (.int .i64 ((Plain.rw a k).getD j 0)) := (H1.out.grow M.out.mi.bel).m k j hlt hlj
            have q3 := (H.out.grow M.out.mi.bel).c k hlt
            have q4 : wr.cell? ⟨IG k, IO k + j, none⟩ = some (.int .i64 ((Plain.rw b k).getD j 0)) := (H.out.grow M.out.mi.bel).m k j hlt hlj
            have x0 := M.out.x0
            have y0 := M.out.mi.by2.c0
            by_cases hu2 : (Plain.rw a k).getD j 0 < (Plain.rw b k).getD j 0
            · have MX := hid (show max ((Plain.rw a k).getD j 0) ((Plain.rw b k).getD j 0) = (Plain.rw b k).getD j 0 by omega)
              generalize hpx : (Plain.rw a k).getD j 0 = px at *
              generalize hpy : (Plain.rw b k).getD j 0 = py at *
              have HPY := hid hpy
              clear hpx hpy
              go_wp2
              go_quiet (fail)
              obtain ⟨W, hW⟩ : ∃ W, W = wr.drewN nq := ⟨_, rfl⟩
              have MW := hid (M.out.step (w' := W) (by rw [hW]; exact grow_below wr nq #[]))
              rw [← hW]
              clear hW M q1 q2 q3 q4 x0 y0
              have z0 := MW.out.mi.box.c0
              have y0 := MW.out.mi.by2.c0
              have q3 := (H.out.grow MW.out.mi.bel).c k hlt
              have q4 : W.cell? ⟨IG k, IO k + j, none⟩ = some (.int .i64 ((Plain.rw b k).getD j 0)) := (H.out.grow MW.out.mi.bel).m k j hlt hlj
              rw [HPY.out] at q4
              have q5 := MW.out.mi.own.c k hlt
              have u1 := (MW.out.mi.own.m k hlt).cell (i := j) (by rw [MW.out.mi.own.lr k hlt]; exact hlj)
              have u2 := (MW.out.mi.own.m k hlt).frozen j
              have u3 := (MW.out.mi.own.m k hlt).lt
              have NX := hid (MW.out.set (MW.out.mi.own.Bg k hlt) (MW.out.mi.hg k hlt) (MW.out.mi.own.setM k j hlt hlj py))
              go_wp2
              go_region
              obtain ⟨W2, hW2⟩ : ∃ W2, W2 = (W.setCell ⟨G k, j, none⟩ (.int .i64 py)).drew := ⟨_, rfl⟩
              rw [← hW2] at NX ⊢
              have MI := hid (show MJ w W2 w2.heap.size n b' bu cb cu (w.heap.size + 1 + 1) w3.heap.size w.heap.size (w.heap.size + 1) G C (.slice (some ⟨jb, jo, none⟩) n jc) (.slice (some ⟨jbu, jou, none⟩) n jcu) (.slice (some ⟨ib, io, none⟩) n ic) (.slice (some ⟨ibu, iou, none⟩) n icu) (Plain.gT a b k (k + 1) (j + 1)) by rw [← RS.out, MX.out]; exact NX.out)
              clear hW2 z0 y0 q3 q4 q5 u1 u2 u3 MW NX RS RN HPY MX
              go_wp2
              go_roundw
              case rel => exact ⟨j + 1, by omega, by go_num, MI.out⟩
              case measure => simp [intOf]; omega
            · have MI0 := hid M.out
              rw [← RN.out hu2] at MI0
              generalize (Plain.rw a k).getD j 0 = px at *
              generalize (Plain.rw b k).getD j 0 = py at *
              go_wp2
              go_quiet (fail)
              obtain ⟨W3, hW⟩ : ∃ W3, W3 = wr.drewN nq := ⟨_, rfl⟩
              have MI := hid (MI0.out.step (w' := W3) (by rw [hW]; exact grow_below wr nq #[]))
              rw [← hW]
              clear hW M q1 q2 q3 q4 x0 y0 MI0 RS RN
              go_wp2
              go_roundw
              case rel => exact ⟨j + 1, by omega, by go_num, MI.out⟩
              case measure => simp [intOf]; omega
          · have ej : j = n := by omega
            have hnj : ¬ (j : Int) < (n : Int) := by omega
            have NX := hid (show MJ w wr w2.heap.size n b' bu cb cu (w.heap.size + 1 + 1) w3.heap.size w.heap.size (w.heap.size + 1) G C (.slice (some ⟨jb, jo, none⟩) n jc) (.slice (some ⟨jbu, jou, none⟩) n jcu) (.slice (some ⟨ib, io, none⟩) n ic) (.slice (some ⟨ibu, iou, none⟩) n icu) (Plain.gT a b (k + 1) (k + 1) 0) by have := M.out; rwa [ej, Plain.g_next a b k (k + 1) n (SA.out.r k hlt)] at this)
            clear ej
            go_wp2
            go_roundw
            case rel => exact ⟨k + 1, by omega, by go_num, NX.out⟩
            case measure => simp [intOf]; omega
    · have ek : k = n := by omega
      have hnlt : ¬ (k : Int) < (n : Int) := by omega
      have OW := hid (show OwnT wr w2.heap.size n b' bu G C (Plain.mergeT a b) by have := M.out.mi.own; rwa [ek, Plain.g_all a b n SA.out.m SA.out.u] at this)
      have NB := hid (show w.heap.size + 1 + 1 ≠ b' ∧ w.heap.size + 1 + 1 ≠ bu ∧ (∀ i, i < n → w.heap.size + 1 + 1 ≠ G i) from ⟨by have := M.out.mi.rB; have := M.out.mi.own.B0; omega, by have := M.out.mi.rB; have := M.out.mi.own.Bu; omega, fun i hi => by have := M.out.mi.rB; have := M.out.mi.own.Bg i hi; omega⟩)
      have z0 := M.out.mi.box.c0
      have z1 := M.out.mi.box.c1
      have d0 := M.out.mi.res.c0
      have d1 := M.out.mi.res.c1
      have d2 := M.out.mi.res.frozen 0
      have d3 := M.out.mi.res.frozen 1
      have d4 := M.out.mi.res.lt
      clear ek
      go_wp2
      (try simp only [Exit.inBlock, Exit.then])
      refine bodyPost_ret (v := .tuple #[aggT (.slice (some ⟨b', 0, none⟩) n cb) (.slice (some ⟨bu, 0, none⟩) n cu), .int .i64 0]) ?_ rfl ⟨_, _, rfl, ((OW.out.base M.out.mi.lo).res _ _ NB.out.1 NB.out.2.1 NB.out.2.2).hasP _ _, below_res M.out.mi.bel M.out.mi.r0⟩
      exact results_tally2 (p := 4) (u := 5) rfl _ _ (w.heap.size + 1 + 1) _ _ rfl (M.out.mi.res.set _ _)


/-- The document's Merge, whatever it is handed. -/
theorem rmerge_any (m1 u1 m2 u2 : Value) (a b : Plain.Ta) (w : World) (h : HasT w m1 u1 a) (h2 : HasT w m2 u2 b) :
    Calls Try.prog 8 #[aggT m1 u1, aggT m2 u2] w fun e w' => ∃ x y, e = .returned (.tuple #[aggT x y, .int .i64 (Plain.mergeE a b : Nat)]) ∧ HasP (w.heap.size ≤ ·) w' x y (Plain.mergeV a b) ∧ Below w.heap.size w w' := by
  by_cases hm : Plain.mayT a = true ∧ Plain.mayT b = true
  · by_cases hs : a.used.length = b.used.length
    · have e1 : Plain.mergeE a b = 0 := by unfold Plain.mergeE; rw [if_pos hm, if_pos hs]
      have e2 : Plain.mergeV a b = Plain.mergeT a b := by unfold Plain.mergeV; rw [if_pos e1]
      rw [e1, e2]
      exact rmerge_ok m1 u1 m2 u2 a b _ w h h2 (Plain.mayT_iff.1 hm.1) (hs ▸ Plain.mayT_iff.1 hm.2)
    · have e1 : Plain.mergeE a b = 1 := by unfold Plain.mergeE; rw [if_pos hm, if_neg hs]
      have e2 : Plain.mergeV a b = ⟨[], []⟩ := by unfold Plain.mergeV; rw [if_neg (by rw [e1]; omega)]
      rw [e1, e2]
      exact (rmerge_size m1 u1 m2 u2 a b w h h2 hm.1 hm.2 hs).mono fun e w' ⟨h1, h2⟩ => ⟨_, _, h1, HasP.nil _ _, h2⟩
  · have e1 : Plain.mergeE a b = 4 := by unfold Plain.mergeE; rw [if_neg hm]
    have e2 : Plain.mergeV a b = ⟨[], []⟩ := by unfold Plain.mergeV; rw [if_neg (by rw [e1]; omega)]
    rw [e1, e2]
    exact (rmerge_form m1 u1 m2 u2 a b w h h2 hm).mono fun e w' ⟨h1, h2⟩ => ⟨_, _, h1, HasP.nil _ _, h2⟩
end Go.Proofs.Ytcdlgpickjiikag
