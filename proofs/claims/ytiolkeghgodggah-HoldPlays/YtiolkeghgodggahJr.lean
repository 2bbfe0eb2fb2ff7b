/-
  The document's rack in memory; contracts of Held and opens.
-/
import Derived.Test.YtiolkeghgodggahJk
import Derived.Test.YtiolkeghgodggahRw
namespace Go.Proofs.Ytiolkeghgodggah.Hd
open Go.RowKit Go.Shelf

def rackF (f u : Int) (vc vl : Value) (j : Nat) : Value := if j = 0 then .int .i64 f else if j = 1 then .int .i64 u else if j = 2 then vc else vl

/-- A rack: its four cells, and the rows of its holds. -/
structure RkI (B : Nat) (w : World) (R : Nat) (vc vl : Value) (r : Plain.Rk) : Prop where
  row : w.rowIs R 54 4 (rackF r.free r.used vc vl)
  oc : w.ownsRow B 3 1 vc r.cs.length (ivals r.cs)
  ol : w.ownsRow B 3 1 vl r.ls.length (ivals r.ls)
  ap : vc.ownBlock = none ∨ vc.ownBlock ≠ vl.ownBlock
  ge : B ≤ R
namespace RkI
variable {B : Nat} {w w' : World} {R : Nat} {vc vl : Value} {r : Plain.Rk}
theorem grow (h : RkI B w R vc vl r) (g : Below w.heap.size w w') : RkI B w' R vc vl r :=
  ⟨h.row.of_block (g.block _ h.row.lt), owns_grow h.oc g, owns_grow h.ol g, h.ap, h.ge⟩
theorem c0 (h : RkI B w R vc vl r) : w.cell? ⟨R, 0, none⟩ = some (.int .i64 r.free) := h.row.cell (i := 0) (by omega)
theorem c1 (h : RkI B w R vc vl r) : w.cell? ⟨R, 1, none⟩ = some (.int .i64 r.used) := h.row.cell (i := 1) (by omega)
theorem c2 (h : RkI B w R vc vl r) : w.cell? ⟨R, 2, none⟩ = some vc := h.row.cell (i := 2) (by omega)
theorem c3 (h : RkI B w R vc vl r) : w.cell? ⟨R, 3, none⟩ = some vl := h.row.cell (i := 3) (by omega)
theorem free (h : RkI B w R vc vl r) (x : Int) : RkI B (w.setCell ⟨R, 0, none⟩ (.int .i64 x)) R vc vl { r with free := x } := by
  refine ⟨(h.row.set 0 (.int .i64 x)).congr fun j _ => ?_, ownsRow_setCell_other h.oc (row_owns_ne h.row h.oc (by decide)) _, ownsRow_setCell_other h.ol (row_owns_ne h.row h.ol (by decide)) _, h.ap, h.ge⟩
  unfold rackF
  by_cases e : j = 0
  · rw [if_pos e, if_pos e]
  · rw [if_neg e, if_neg e, if_neg e]
theorem used (h : RkI B w R vc vl r) (x : Int) : RkI B (w.setCell ⟨R, 1, none⟩ (.int .i64 x)) R vc vl { r with used := x } := by
  refine ⟨(h.row.set 1 (.int .i64 x)).congr fun j _ => ?_, ownsRow_setCell_other h.oc (row_owns_ne h.row h.oc (by decide)) _, ownsRow_setCell_other h.ol (row_owns_ne h.row h.ol (by decide)) _, h.ap, h.ge⟩
  unfold rackF
  by_cases e : j = 1
  · rw [if_pos e, if_neg (by omega), if_pos e]
  · rw [if_neg e]
    simp only [if_neg e]
/-- The rows, in one form. -/
theorem forms (h : RkI B w R vc vl r) : ∃ pc cc pl cl, vc = .slice pc r.cs.length cc ∧ vl = .slice pl r.ls.length cl ∧
    (0 < r.cs.length → ∃ g, pc = some ⟨g, 0, none⟩ ∧ B ≤ g ∧ g < w.heap.size ∧ ∀ j, j < r.cs.length → w.cell? ⟨g, j, none⟩ = some (.int .i64 (r.cs.getD j 0))) ∧
    (0 < r.ls.length → ∃ g, pl = some ⟨g, 0, none⟩ ∧ B ≤ g ∧ g < w.heap.size ∧ ∀ j, j < r.ls.length → w.cell? ⟨g, j, none⟩ = some (.int .i64 (r.ls.getD j 0)) ∧ w.frozen? ⟨g, j, none⟩ = false) := by
  have key : ∀ {v : Value} {l : List Int}, w.ownsRow B 3 1 v l.length (ivals l) → ∃ p c, v = .slice p l.length c ∧
      (0 < l.length → ∃ g, p = some ⟨g, 0, none⟩ ∧ B ≤ g ∧ g < w.heap.size ∧ ∀ j, j < l.length → w.cell? ⟨g, j, none⟩ = some (.int .i64 (l.getD j 0)) ∧ w.frozen? ⟨g, j, none⟩ = false) := by
    intro v l ho
    rcases ho.2 with ⟨rfl, h0⟩ | ⟨g, c, cur, rfl, hg, hb, h1, h2, h3, h4⟩
    · rw [h0]; exact ⟨none, 0, rfl, fun h => by omega⟩
    · have R := (RowI.of_owns (l := l) ho rfl rfl).1
      exact ⟨_, c, rfl, fun _ => ⟨g, rfl, hg, R.lt, fun j hj => ⟨R.cell hj, R.frozen j⟩⟩⟩
  obtain ⟨pc, cc, e1, h1⟩ := key h.oc
  obtain ⟨pl, cl, e2, h2⟩ := key h.ol
  refine ⟨pc, cc, pl, cl, e1, e2, fun h0 => ?_, h2⟩
  obtain ⟨g, a, b, c, d⟩ := h1 h0
  exact ⟨g, a, b, c, fun j hj => (d j hj).1⟩
/-- A store into the ticks. -/
theorem left {g cl : Nat} (h : RkI B w R vc (.slice (some ⟨g, 0, none⟩) r.ls.length cl) r) (i : Nat) (x : Int) :
    RkI B (w.setCell ⟨g, i, none⟩ (.int .i64 x)) R vc (.slice (some ⟨g, 0, none⟩) r.ls.length cl) { r with ls := r.ls.set i x } := by
  have hne : R ≠ g := by
    intro e
    exact row_owns_ne h.row h.ol (by decide) (by simp [Value.ownBlock, e])
  have ho := (h.ol.stored i (.int .i64 x)).1
  rw [ivals_set] at ho
  refine ⟨h.row.setOther (a := ⟨g, i, none⟩) hne _, ?_, ?_, h.ap, h.ge⟩
  · refine ownsRow_setCell_other h.oc ?_ _
    rcases h.ap with e | e
    · rw [e]; simp
    · intro e2
      exact e (by rw [e2]; rfl)
  · show World.ownsRow _ B 3 1 _ (r.ls.set i x).length (ivals (r.ls.set i x))
    rw [List.length_set]
    exact ho
end RkI

namespace Plain
theorem heldL_next (cs ls : List Int) (k : Nat) (h1 : k < cs.length) (h2 : k < ls.length) : heldL (cs.take (k + 1)) (ls.take (k + 1)) = heldL (cs.take k) (ls.take k) + if 0 < ls.getD k 0 then cs.getD k 0 else 0 := by
  induction k generalizing cs ls with
  | zero =>
    cases cs with
    | nil => simp at h1
    | cons c cs =>
      cases ls with
      | nil => simp at h2
      | cons x ls => simp [heldL]
  | succ k ih =>
    cases cs with
    | nil => simp at h1
    | cons c cs =>
      cases ls with
      | nil => simp at h2
      | cons x ls =>
        have := ih cs ls (by simpa using h1) (by simpa using h2)
        simp only [List.take_succ_cons, heldL, this, List.getD_cons_succ]; omega
theorem opensL_next (ls : List Int) (k : Nat) (h : k < ls.length) : opensL (ls.take (k + 1)) = opensL (ls.take k) + if 0 < ls.getD k 0 then 1 else 0 := by
  rw [List.take_succ_eq_append_getElem h, opensL_snoc, List.getD_eq_getElem?_getD, List.getElem?_eq_getElem h]
  rfl
theorem heldL_part {cs ls : List Int} (k : Nat) (h : ∀ c, c ∈ cs → 0 ≤ c) : 0 ≤ heldL (cs.take k) (ls.take k) ∧ heldL (cs.take k) (ls.take k) ≤ heldL cs ls := by
  refine ⟨heldL_nonneg fun c hc => h c (List.mem_of_mem_take hc), ?_⟩
  induction k generalizing cs ls with
  | zero => simp only [List.take_zero]; exact heldL_nonneg h
  | succ k ih =>
    cases cs with
    | nil => simp [heldL]
    | cons c cs =>
      cases ls with
      | nil => simp [heldL]
      | cons x ls =>
        have := ih (cs := cs) (ls := ls) fun d hd => h d (List.mem_cons_of_mem _ hd)
        simp only [List.take_succ_cons, heldL]; omega
end Plain

set_option maxHeartbeats 1000000 in
theorem held_c (B R : Nat) (vc vl : Value) (r : Plain.Rk) (g : Int) (hv : Plain.Hv r g) (hb : r.cs.length ≤ 1000) (w : World) (h : RkI B w R vc vl r) :
    Calls Try.prog 31 #[.pointer (some ⟨R, 0, none⟩)] w fun e w' => e = .returned (.int .i64 r.held) ∧ w' = w := by
  obtain ⟨pc, cc, pl, cl, rfl, rfl, hc, hl⟩ := h.forms
  have r2 := h.c2
  have r3 := h.c3
  have HN := hid hv.ln
  have HC := hid hc
  have HL := hid hl
  have HP := hid (fun k => Plain.heldL_part (cs := r.cs) (ls := r.ls) k fun c hc => by have := hv.ct c hc; omega)
  have HS := hid (show r.held ≤ 1048576 by have := hv.sm; have := hv.fr; have := hv.us; have := hv.gb; omega)
  have HCT := hid hv.ct
  clear hc hl h
  generalize hn : r.cs.length = n at *
  have hm : r.ls.length = n := HN.out.symm
  rw [hm] at r3 HL
  have HM := hid hm
  have HNN := hid hn
  clear hm hn hv HN
  go_enter Try.func31, Try.ntmps31
  go_wp2
  go_loopg [3, 10] n (fun gg s3 s10 wr => ∃ (k : Nat) (S : Int), k ≤ n ∧ n - k ≤ gg ∧ s10 = .int .i64 k ∧ s3 = .int .i64 S ∧ wr = w ∧ Aside (S = Plain.heldL (r.cs.take k) (r.ls.take k)))
  case atStart => exact ⟨0, 0, Nat.zero_le _, by omega, rfl, rfl, rfl, (show Aside _ by simp only [List.take_zero]; rfl)⟩
  case round =>
    obtain ⟨k, S, hkk, hg, rfl, rfl, hwr, A⟩ := hrel
    have hy0 := hwr.symm; clear hwr; subst hy0
    by_cases hlt : k < n
    · have hltz : (k : Int) < (n : Int) := by omega
      obtain ⟨gc, rfl, _, _, hcc⟩ := HC.out (by omega)
      obtain ⟨gl, rfl, _, _, hll⟩ := HL.out (by omega)
      have cc0 := hcc k hlt
      have cl0 := (hll k hlt).1
      clear hcc hll
      have hnx := hid (Plain.heldL_next r.cs r.ls k (by rw [HNN.out]; exact hlt) (by rw [HM.out]; exact hlt))
      have hS := HP.out k
      rw [← A.out] at hS
      have hS2 : S ≤ 1048576 := by have := HS.out; have := hS.2; unfold Plain.Rk.held at *; omega
      have hcb := HCT.out (r.cs.getD k 0) (by
        rw [List.getD_eq_getElem?_getD, List.getElem?_eq_getElem (by rw [HNN.out]; exact hlt)]
        exact List.getElem_mem _)
      have hS1 := hS.1
      clear hS
      generalize r.cs.getD k 0 = y at cc0 hnx hcb
      generalize r.ls.getD k 0 = x at cl0 hnx
      obtain ⟨y1, y2⟩ := hcb
      by_cases hx : 0 < x
      · have R := hid (show Plain.heldL (r.cs.take (k + 1)) (r.ls.take (k + 1)) = S + y by rw [hnx.out, if_pos hx, A.out])
        clear hnx
        go_wp2
        go_roundg (n - (k + 1))
        case measure => omega
        case rel => exact ⟨k + 1, S + y, by omega, by omega, by go_num, rfl, rfl, R.out.symm⟩
      · have R := hid (show Plain.heldL (r.cs.take (k + 1)) (r.ls.take (k + 1)) = S by rw [hnx.out, if_neg hx, A.out, Int.add_zero])
        clear hnx
        go_wp2
        go_roundg (n - (k + 1))
        case measure => omega
        case rel => exact ⟨k + 1, S, by omega, by omega, by go_num, rfl, rfl, R.out.symm⟩
    · have hltz : ¬ (k : Int) < (n : Int) := by omega
      have F := hid (show S = r.held by
        rw [A.out, List.take_of_length_le (by rw [HNN.out]; omega), List.take_of_length_le (by rw [HM.out]; omega)]; rfl)
      go_wp2
      go_ret
      exact ⟨ret_int F.out, rfl⟩

set_option maxHeartbeats 1000000 in
theorem opens_c (B R : Nat) (vc vl : Value) (r : Plain.Rk) (hb : r.ls.length ≤ 1000) (w : World) (h : RkI B w R vc vl r) :
    Calls Try.prog 42 #[.pointer (some ⟨R, 0, none⟩)] w fun e w' => e = .returned (.int .i64 (Plain.opensL r.ls)) ∧ w' = w := by
  obtain ⟨pc, cc, pl, cl, rfl, rfl, hc, hl⟩ := h.forms
  have r3 := h.c3
  have HL := hid hl
  clear hc hl h
  generalize hn : r.ls.length = n at *
  have HNN := hid hn
  clear hn
  go_enter Try.func42, Try.ntmps42
  go_wp2
  go_loopg [3, 11] n (fun gg s3 s11 wr => ∃ (k : Nat) (S : Int), k ≤ n ∧ n - k ≤ gg ∧ s11 = .int .i64 k ∧ s3 = .int .i64 S ∧ wr = w ∧ Aside (S = Plain.opensL (r.ls.take k)))
  case atStart => exact ⟨0, 0, Nat.zero_le _, by omega, rfl, rfl, rfl, (show Aside _ by simp only [List.take_zero]; rfl)⟩
  case round =>
    obtain ⟨k, S, hkk, hg, rfl, rfl, hwr, A⟩ := hrel
    have hy0 := hwr.symm; clear hwr; subst hy0
    by_cases hlt : k < n
    · have hltz : (k : Int) < (n : Int) := by omega
      obtain ⟨gl, rfl, _, _, hll⟩ := HL.out (by omega)
      have cl0 := (hll k hlt).1
      clear hll
      have hnx := hid (Plain.opensL_next r.ls k (by rw [HNN.out]; exact hlt))
      have hS1 := Plain.opensL_nonneg (r.ls.take k)
      have hS2 := Plain.opensL_le (r.ls.take k)
      rw [List.length_take] at hS2
      rw [← A.out] at hS1 hS2
      have hS3 : S ≤ 1000 := by omega
      clear hS2
      generalize r.ls.getD k 0 = x at cl0 hnx
      by_cases hx : 0 < x
      · have R := hid (show Plain.opensL (r.ls.take (k + 1)) = S + 1 by rw [hnx.out, if_pos hx, A.out])
        clear hnx
        go_wp2
        go_roundg (n - (k + 1))
        case measure => omega
        case rel => exact ⟨k + 1, S + 1, by omega, by omega, by go_num, rfl, rfl, R.out.symm⟩
      · have R := hid (show Plain.opensL (r.ls.take (k + 1)) = S by rw [hnx.out, if_neg hx, A.out, Int.add_zero])
        clear hnx
        go_wp2
        go_roundg (n - (k + 1))
        case measure => omega
        case rel => exact ⟨k + 1, S, by omega, by omega, by go_num, rfl, rfl, R.out.symm⟩
    · have hltz : ¬ (k : Int) < (n : Int) := by omega
      have F := hid (show S = Plain.opensL r.ls by rw [A.out, List.take_of_length_le (by rw [HNN.out]; omega)])
      go_wp2
      go_ret
      exact ⟨ret_int F.out, rfl⟩
end Go.Proofs.Ytiolkeghgodggah.Hd
