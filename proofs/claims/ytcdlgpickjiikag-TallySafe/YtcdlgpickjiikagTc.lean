/-
  A contract of tally.copied: a copy in rows of its own.
-/
import Derived.Test.YtcdlgpickjiikagTcl
import Derived.Test.YtcdlgpickjiikagTlr
import Derived.Laws.ResultCell
import Derived.Laws.Rows
namespace Go.Proofs.Ytcdlgpickjiikag
open Go.RowKit Go.Sort

theorem rowIs_below {w w' : World} {b e n B : Nat} {f : Nat → Value} (h : w.rowIs b e n f) (g : Below B w w') (hb : b < B) : w'.rowIs b e n f := by
  obtain ⟨c, h1, h2, h3⟩ := h
  exact ⟨c, (g.block b hb).trans h1, h2, h3⟩
/-- A cell of two slices. -/
def Res (w : World) (rb : Nat) (x y : Value) : Prop := w.heap[rb]? = some (.cells #[x, y] 25 (0, 0))
theorem Res.lt {w : World} {rb : Nat} {x y : Value} (h : Res w rb x y) : rb < w.heap.size := (Array.getElem?_eq_some_iff.1 h).1
theorem Res.below {w w' : World} {rb B : Nat} {x y : Value} (h : Res w rb x y) (g : Below B w w') (hb : rb < B) : Res w' rb x y := (g.block rb hb).trans h
theorem Res.c0 {w : World} {rb : Nat} {x y : Value} (h : Res w rb x y) : w.cell? ⟨rb, 0, none⟩ = some x := by
  have h' : w.heap[rb]? = _ := h
  simp only [World.cell?, h']
  rfl
theorem Res.c1 {w : World} {rb : Nat} {x y : Value} (h : Res w rb x y) : w.cell? ⟨rb, 1, none⟩ = some y := by
  have h' : w.heap[rb]? = _ := h
  simp only [World.cell?, h']
  rfl
theorem Res.frozen {w : World} {rb : Nat} {x y : Value} (h : Res w rb x y) (i : Nat) : w.frozen? ⟨rb, i, none⟩ = false := by
  have h' : w.heap[rb]? = _ := h
  simp [World.frozen?, h']
theorem Res.set {w : World} {rb : Nat} {x y : Value} (h : Res w rb x y) (x' y' : Value) : Res ((w.setCell ⟨rb, 0, none⟩ x').setCell ⟨rb, 1, none⟩ y') rb x' y' := by
  have h' : w.heap[rb]? = _ := h
  unfold Res
  simp [World.setCell, Array.getElem?_modify, h']
theorem Res.other {w : World} {rb : Nat} {x y v : Value} {a : Addr} (h : Res w rb x y) (ha : rb ≠ a.block) : Res (w.setCell a v) rb x y := (Below.heap_setCell _ _ _ _ ha).trans h
theorem below_res {w0 w : World} {B rb : Nat} {x y : Value} (h : Below B w0 w) (hb : B ≤ rb) : Below B w0 ((w.setCell ⟨rb, 0, none⟩ x).setCell ⟨rb, 1, none⟩ y) :=
  (h.setCell (p := ⟨rb, 0, none⟩) hb _).setCell (p := ⟨rb, 1, none⟩) hb _
theorem results_tally {fn : Func} {p : Tmp} (h : fn.results = #[.cell p 25]) (tmps : Array Value) (w : World) (g : Nat) (x y : Value)
    (hp : tmps.getD p undef = .pointer (some ⟨g, 0, none⟩)) (hg : Res w g x y) : (results fn tmps).run Try.prog w = .ok (aggT x y) w :=
  results_cell_row (P := Try.prog) h tmps w g 25 _ (0, 0) _ hp hg Try.underlying25 rfl (by kernel_rfl)
theorem results_tally2 {fn : Func} {p u : Tmp} (h : fn.results = #[.cell p 25, .tmp u]) (tmps : Array Value) (w : World) (g : Nat) (x y : Value)
    (hp : tmps.getD p undef = .pointer (some ⟨g, 0, none⟩)) (hg : Res w g x y) : (results fn tmps).run Try.prog w = .ok (.tuple #[aggT x y, tmps.getD u undef]) w := by
  rw [results_cell_tmp h, hp]
  have hl := run_loadVar_row (P := Try.prog) w g 25 25 #[x, y] (0, 0) _ hg Try.underlying25 rfl (by kernel_rfl)
  simp [asAddr, hl]

/-- The copy, up to its k-th row. -/
structure CI (w0 w : World) (n k b rb xb : Nat) (G C : Nat → Nat) (t : Plain.Ta) (vm vu : Value) : Prop where
  st : St w0 w xb vm vu t
  row : w.rowIs b 23 n (fun j => if j < k then .slice (some ⟨G j, 0, none⟩) n (C j) else .slice none 0 0)
  res : Res w rb (.slice none 0 0) (.slice none 0 0)
  b0 : w0.heap.size ≤ b
  r0 : w0.heap.size ≤ rb
  rb : rb < b
  m : ∀ i, i < k → RowI w (G i) (Plain.rw t i)
  lo : ∀ i, i < k → b < G i
  up : ∀ i j, i < j → j < k → G i < G j
theorem CI.step {w0 w w' : World} {n k b rb xb g c : Nat} {G C : Nat → Nat} {t : Plain.Ta} {vm vu : Value} (h : CI w0 w n k b rb xb G C t vm vu) (hx : xb < rb)
    (gr : Below w.heap.size w w') (hg : RowI w' g (Plain.rw t k)) (hge : w.heap.size ≤ g) :
    CI w0 (w'.setCell ⟨b, k, none⟩ (.slice (some ⟨g, 0, none⟩) n c)) n (k + 1) b rb xb (fun j => if j = k then g else G j) (fun j => if j = k then c else C j) t vm vu := by
  have hb : b < w.heap.size := h.row.lt
  have row' := rowIs_below h.row gr hb
  have hlt : ∀ i, i < k → G i < w.heap.size := fun i hi => (h.m i hi).lt
  have bel' : Below w0.heap.size w0 (w'.setCell ⟨b, k, none⟩ (.slice (some ⟨g, 0, none⟩) n c)) := (h.st.step gr).bel.setCell (p := ⟨b, k, none⟩) h.b0 _
  have b2 : Below b w' (w'.setCell ⟨b, k, none⟩ (.slice (some ⟨g, 0, none⟩) n c)) := (Below.refl b w').setCell (p := ⟨b, k, none⟩) (Nat.le_refl _) _
  have st' := h.st.step gr
  have hx2 := h.rb
  refine ⟨⟨bel', h.st.has0, ?_, ?_, ?_⟩, ?_, ?_, h.b0, h.r0, h.rb, ?_, ?_, ?_⟩
  · simpa [World.setCell] using st'.lt
  · exact (b2.cell (p := ⟨xb, 0, none⟩) (by show xb < b; omega)).trans st'.x0
  · exact (b2.cell (p := ⟨xb, 1, none⟩) (by show xb < b; omega)).trans st'.x1
  · refine (row'.set k _).congr fun j hj => ?_
    by_cases e : j = k
    · subst e; rw [if_pos rfl, if_pos (by omega), if_pos rfl, if_pos rfl]
    · rw [if_neg e, if_neg e, if_neg e]
      by_cases d : j < k
      · rw [if_pos d, if_pos (by omega)]
      · rw [if_neg d, if_neg (by omega)]
  · exact (h.res.below gr h.res.lt).below b2 h.rb
  · intro i hi
    by_cases e : i = k
    · subst e; rw [if_pos rfl]; exact hg.other (a := ⟨b, i, none⟩) (by show g ≠ b; omega) _
    · rw [if_neg e]
      have l := h.lo i (by omega)
      exact ((h.m i (by omega)).below gr (hlt i (by omega))).other (a := ⟨b, k, none⟩) (by show G i ≠ b; omega) _
  · intro i hi
    by_cases e : i = k
    · rw [if_pos e]; omega
    · rw [if_neg e]; exact h.lo i (by omega)
  · intro i j hij hj
    rw [if_neg (by omega)]
    by_cases e : j = k
    · rw [if_pos e]; have := hlt i (by omega); omega
    · rw [if_neg e]; exact h.up i j hij (by omega)
theorem CI.start {w : World} {vm vu : Value} {t : Plain.Ta} (h : HasT w vm vu t) (n : Nat) (G C : Nat → Nat) :
    CI w (((w.alloc (boxT vm vu)).alloc (.cells #[.slice none 0 0, .slice none 0 0] 25)).alloc (.cells (madeCells #[.slice none 0 0] n) 23)) n 0 (w.heap.size + 1 + 1) (w.heap.size + 1) w.heap.size G C t vm vu := by
  have g2 : Below (w.alloc (boxT vm vu)).heap.size (w.alloc (boxT vm vu)) ((w.alloc (boxT vm vu)).alloc (.cells #[.slice none 0 0, .slice none 0 0] 25)) := (Below.refl _ _).alloc (Nat.le_refl _) _
  have g3 : Below ((w.alloc (boxT vm vu)).alloc (.cells #[.slice none 0 0, .slice none 0 0] 25)).heap.size _ (((w.alloc (boxT vm vu)).alloc (.cells #[.slice none 0 0, .slice none 0 0] 25)).alloc (.cells (madeCells #[.slice none 0 0] n) 23)) := (Below.refl _ _).alloc (Nat.le_refl _) _
  refine ⟨((St.start h).step g2).step g3, ?_, ?_, by omega, by omega, by omega, fun i hi => absurd hi (Nat.not_lt_zero _), fun i hi => absurd hi (Nat.not_lt_zero _), fun i j _ hj => absurd hj (Nat.not_lt_zero _)⟩
  · have := World.rowIs_made ((w.alloc (boxT vm vu)).alloc (.cells #[.slice none 0 0, .slice none 0 0] 25)) (.slice none 0 0) n 23
    simp only [World.size_alloc] at this
    exact this.congr fun j _ => by rw [if_neg (Nat.not_lt_zero _)]
  · have r : Res ((w.alloc (boxT vm vu)).alloc (.cells #[.slice none 0 0, .slice none 0 0] 25)) (w.heap.size + 1) (.slice none 0 0) (.slice none 0 0) := by
      have := Deep.blk_alloc_new (w.alloc (boxT vm vu)) (.cells #[.slice none 0 0, .slice none 0 0] 25)
      simp only [World.size_alloc] at this
      exact this
    exact r.below g3 (by simp)
/-- The copy is whole: what was used is copied too. -/
theorem CI.own {w0 w w' : World} {n b rb xb g : Nat} {G C : Nat → Nat} {t : Plain.Ta} {vm vu : Value} (h : CI w0 w n n b rb xb G C t vm vu) (s : Plain.Sq n t)
    (gr : Below w.heap.size w w') (hg : RowI w' g t.used) (hge : w.heap.size ≤ g) : OwnT w' w0.heap.size n b g G C t := by
  have hb : b < w.heap.size := h.row.lt
  have row' := rowIs_below h.row gr hb
  have hlt : ∀ i, i < n → G i < w.heap.size := fun i hi => (h.m i hi).lt
  have b0 := h.b0
  refine ⟨h.b0, Nat.le_trans h.st.bel.size hge, fun i hi => by have := h.lo i hi; omega, row'.lt, fun i hi => ?_, fun i hi => (h.m i hi).below gr (hlt i hi), hg, fun i hi => by have := h.lo i hi; omega, fun i hi => by have := hlt i hi; omega, by omega, fun i j hi hj hne => ?_, s.m, s.r, s.u, s.n8⟩
  · have := row'.cell hi
    rw [if_pos hi] at this
    exact this
  · by_cases e : i < j
    · have := h.up i j e hj; omega
    · have := h.up j i (by omega) hi; omega
theorem OwnT.res {w : World} {B n b bu rb : Nat} {G C : Nat → Nat} {t : Plain.Ta} (h : OwnT w B n b bu G C t) (x y : Value) (hb : rb ≠ b) (hu : rb ≠ bu) (hg : ∀ i, i < n → rb ≠ G i) :
    OwnT ((w.setCell ⟨rb, 0, none⟩ x).setCell ⟨rb, 1, none⟩ y) B n b bu G C t := by
  have key : ∀ k, k ≠ rb → ((w.setCell ⟨rb, 0, none⟩ x).setCell ⟨rb, 1, none⟩ y).heap[k]? = w.heap[k]? := fun k hk => by
    rw [Below.heap_setCell _ _ _ _ (show k ≠ (⟨rb, 1, none⟩ : Addr).block from hk), Below.heap_setCell _ _ _ _ (show k ≠ (⟨rb, 0, none⟩ : Addr).block from hk)]
  refine { h with lb := by simpa [World.setCell] using h.lb, c := fun i hi => ?_, m := fun i hi => (h.m i hi).of_block (key _ (hg i hi).symm), u := h.u.of_block (key _ hu.symm) }
  rw [cell_other (a := ⟨rb, 1, none⟩) hb.symm, cell_other (a := ⟨rb, 0, none⟩) hb.symm]
  exact h.c i hi

set_option maxHeartbeats 2000000 in
theorem copied_c (vm vu : Value) (t : Plain.Ta) (n : Nat) (s : Plain.Sq n t) (w : World) (h : HasT w vm vu t) :
    Calls Try.prog 17 #[aggT vm vu] w fun e w' => ∃ b bu cu G C, e = .returned (aggT (.slice (some ⟨b, 0, none⟩) n n) (.slice (some ⟨bu, 0, none⟩) n cu)) ∧ OwnT w' w.heap.size n b bu G C t ∧ Below w.heap.size w w' := by
  obtain ⟨ib, off, cap, ibu, iou, icu, IG, IO, IC, rfl, rfl, hc⟩ := h.open s
  have H := hid hc
  have S := hid s
  have n1 := s.n1
  have n8 := s.n8
  have CS := hid (fun G C => CI.start h n G C)
  have HB := hid (s.r)
  clear hc s h
  have hmk := run_make_row' (P := Try.prog) 22 23 (.slice none 0 0) 24 Try.underlying22 Try.infoSl rfl .i64 .i64 n (by omega) (by omega)
  go_enter Try.func17, Try.ntmps17
  go_wp2
  clear hmk
  obtain ⟨W, hW⟩ : ∃ W, W = ((w.alloc (boxT (.slice (some ⟨ib, off, none⟩) n cap) (.slice (some ⟨ibu, iou, none⟩) n icu))).alloc (.cells #[.slice none 0 0, .slice none 0 0] 25)).alloc (.cells (madeCells #[.slice none 0 0] n) 23) := ⟨_, rfl⟩
  have CW := CS.out
  rw [← hW] at CW ⊢
  have HCW := hid CW
  clear hW CW CS
  generalize hB : w.heap.size + 1 + 1 = B at HCW ⊢
  generalize hR : w.heap.size + 1 = R at HCW ⊢
  generalize hX : w.heap.size = X at HCW ⊢
  have HX := hid (show X < R ∧ R < B ∧ X = w.heap.size by omega)
  clear hB hR hX
  go_loopw [13] (fun i wr => ∃ k : Nat, k ≤ n ∧ i = .int .i64 k ∧ ∃ G C, CI w wr n k B R X G C t (.slice (some ⟨ib, off, none⟩) n cap) (.slice (some ⟨ibu, iou, none⟩) n icu)) (fun i _ => n - (intOf i).toNat)
  case atStart => exact ⟨0, Nat.zero_le _, rfl, _, _, HCW.out (fun _ => 0) (fun _ => 0)⟩
  case round =>
    obtain ⟨k, hk, rfl, G, C, ci⟩ := hrel
    have HI := hid ci
    clear ci HCW
    by_cases hlt : k < n
    · have hlt' : (k : Int) < (n : Int) := by omega
      have cc := H.out.grow HI.out.st.bel
      have c1 := cc.c k hlt
      have K := clone_at (IG k) (IO k) n (IC k) (Plain.rw t k) (HB.out k hlt) n1 n8 wr (cc.lg k hlt) (fun j hj => cc.m k j hlt hj)
      clear cc
      go_wp2_with fail
      refine K.mono ?_
      rintro e w1 ⟨g, c, rfl, hr1, hr2, hr3⟩
      have NX := hid (HI.out.step (c := c) HX.out.1 hr3 hr1 hr2)
      have row1 := rowIs_below HI.out.row hr3 HI.out.row.lt
      have d1 := row1.cell hlt
      rw [if_neg (Nat.lt_irrefl _)] at d1
      have d2 := row1.frozen k
      have d3 := row1.lt
      clear row1 hr1 hr2 hr3 K c1
      go_wp2
      go_roundw
      case rel => exact ⟨k + 1, by omega, by go_num, _, _, NX.out⟩
      case measure => simp [intOf]; omega
    · have ek : k = n := by omega
      have hnlt : ¬ (k : Int) < (n : Int) := by omega
      have x1 := HI.out.st.x1
      have cc := H.out.grow HI.out.st.bel
      have K := clone_at ibu iou n icu t.used S.out.u n1 n8 wr cc.lu (fun j hj => cc.u j hj)
      clear cc
      subst ek
      go_wp2_with fail
      refine K.mono ?_
      rintro e w1 ⟨g, c, rfl, hr1, hr2, hr3⟩
      have OW := hid (HI.out.own S.out hr3 hr1 hr2)
      have BL := hid (HI.out.st.step hr3).bel
      have RS := hid (HI.out.res.below hr3 HI.out.res.lt)
      have NE := hid (show R ≠ g ∧ w.heap.size ≤ R by have := HI.out.res.lt; have := HI.out.r0; omega)
      have NG := hid (show ∀ i, i < k → R ≠ G i from fun i hi => by have := HI.out.lo i hi; have := HI.out.rb; omega)
      have NB := hid (show R ≠ B by have := HI.out.rb; omega)
      have d0 := RS.out.c0
      have d1 := RS.out.c1
      have d2 := RS.out.frozen 0
      have d3 := RS.out.frozen 1
      have d4 := RS.out.lt
      clear K x1 hr1 hr2 hr3 HI
      go_wp2
      (try simp only [Exit.inBlock, Exit.then])
      refine bodyPost_ret (v := aggT (.slice (some ⟨B, 0, none⟩) k k) (.slice (some ⟨g, 0, none⟩) k c)) ?_ rfl ⟨B, g, c, G, C, rfl, OW.out.res _ _ NB.out NE.out.1 NG.out, below_res BL.out NE.out.2⟩
      exact results_tally rfl _ _ R _ _ rfl (RS.out.set _ _)
end Go.Proofs.Ytcdlgpickjiikag
