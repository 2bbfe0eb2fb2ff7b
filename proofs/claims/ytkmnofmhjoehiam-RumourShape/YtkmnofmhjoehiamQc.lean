/-
  frame: slotsOf.
-/
import Derived.Test.YtkmnofmhjoehiamQb
import Derived.Test.YtkmnofmhjoehiamQa
import Derived.Deep.LoopGhost
import Derived.Deep.RegionHeld3
import Derived.Deep.Cut
import Derived.Laws.ResultCell
import Derived.Laws.Rows
namespace Go.Proofs.Ytkmnofmhjoehiam
open Go.RowKit Go.Shelf

theorem segN_at {w : World} {p : Option Addr} {c n : Nat} {l : List Plain.En} (h : SegN w (.slice p n c) l) (h0 : 0 < n) : ∃ b off, p = some ⟨b, off, none⟩ ∧ CellsN w b off l := by
  rcases h with ⟨rfl, q, d, e⟩ | ⟨b, o, c, e, _, g⟩
  · injection e with _ e2 _; omega
  · injection e with e1 e2 e3
    exact ⟨b, o, e1, g⟩
namespace Plain
theorem look_take {l : List En} (hs : Srt l) {k : Nat} (hk : k < l.length) (j : Int) : look j (l.take (k + 1)) = if (en l k).key = j then some (en l k) else look j (l.take k) := by
  rw [List.take_succ_eq_append_getElem hk, look_app, ← en_lt hk]
  by_cases e : (en l k).key = j
  · rw [if_pos e]
    have h0 : look j (l.take k) = none := look_none fun x hx => by
      obtain ⟨i, hi, rfl⟩ := List.getElem_of_mem hx
      rw [List.length_take] at hi
      have hik : i < k := by omega
      have := (List.pairwise_iff_getElem.1 hs) i k (by omega) hk hik
      rw [List.getElem_take]
      rw [en_lt hk] at e
      omega
    rw [h0, look_cons, if_pos e]
    rfl
  · rw [if_neg e, look_cons, if_neg e, look_nil, Option.or_none]
theorem slotAt_take {l : List En} (hs : Srt l) {k : Nat} (hk : k < l.length) (j : Nat) : slotAt (l.take (k + 1)) j = if (en l k).key = j then slotN (en l k) else slotAt (l.take k) j := by
  unfold slotAt
  rw [look_take hs hk]
  by_cases e : (en l k).key = j
  · rw [if_pos e, if_pos e]
  · rw [if_neg e, if_neg e]
abbrev ar8 (F : Nat → Int) : Array Value := #[.int .i64 (F 0), .int .i64 (F 1), .int .i64 (F 2), .int .i64 (F 3), .int .i64 (F 4), .int .i64 (F 5), .int .i64 (F 6), .int .i64 (F 7)]
end Plain
/-- Two arrays of slots: one that is handed back, one that is written. -/
structure SlI (w wr : World) (R S : Nat) (F : Nat → Int) : Prop where
  rr : wr.rowIs R 51 8 (fun _ => .int .i64 0)
  rs : wr.rowIs S 51 8 (fun j => .int .i64 (F j))
  hR : w.heap.size ≤ R
  hS : w.heap.size ≤ S
  ne : R ≠ S
  be : Below w.heap.size w wr
theorem SlI.grow {w wr w' : World} {R S : Nat} {F : Nat → Int} (h : SlI w wr R S F) (b : Below wr.heap.size wr w') : SlI w w' R S F :=
  ⟨h.rr.of_block (b.block _ h.rr.lt), h.rs.of_block (b.block _ h.rs.lt), h.hR, h.hS, h.ne, h.be.trans (b.mono h.be.size)⟩
theorem SlI.set {w wr : World} {R S : Nat} {F : Nat → Int} (h : SlI w wr R S F) (j : Nat) (x : Int) : SlI w (wr.setCell ⟨S, j, none⟩ (.int .i64 x)) R S (fun i => if i = j then x else F i) :=
  ⟨h.rr.of_block (RowKit.Below.heap_setCell wr ⟨S, j, none⟩ _ R (fun e => h.ne e)), (h.rs.set j (.int .i64 x)).congr fun i _ => by
    by_cases e : i = j
    · simp only [if_pos e]
    · simp only [if_neg e], h.hR, h.hS, h.ne, h.be.setCell (p := ⟨S, j, none⟩) h.hS _⟩
theorem SlI.congr {w wr : World} {R S : Nat} {F G : Nat → Int} (h : SlI w wr R S F) (e : ∀ j, j < 8 → F j = G j) : SlI w wr R S G :=
  ⟨h.rr, h.rs.congr fun j hj => by rw [e j hj], h.hR, h.hS, h.ne, h.be⟩
theorem SlI.start (w : World) : SlI w ((w.alloc (.cells #[.int .i64 0, .int .i64 0, .int .i64 0, .int .i64 0, .int .i64 0, .int .i64 0, .int .i64 0, .int .i64 0] 51)).alloc (.cells #[.int .i64 0, .int .i64 0, .int .i64 0, .int .i64 0, .int .i64 0, .int .i64 0, .int .i64 0, .int .i64 0] 51)) w.heap.size (w.heap.size + 1) (fun _ => 0) := by
  have z : ∀ W : World, (W.alloc (.cells #[.int .i64 0, .int .i64 0, .int .i64 0, .int .i64 0, .int .i64 0, .int .i64 0, .int .i64 0, .int .i64 0] 51)).rowIs W.heap.size 51 8 (fun _ => .int .i64 0) := fun W => by
    refine World.rowIs_alloc _ _ 51 _ fun i hi => ?_
    have : i = 0 ∨ i = 1 ∨ i = 2 ∨ i = 3 ∨ i = 4 ∨ i = 5 ∨ i = 6 ∨ i = 7 := by have : i < 8 := hi; omega
    rcases this with rfl | rfl | rfl | rfl | rfl | rfl | rfl | rfl <;> rfl
  have s1 : (w.alloc (.cells #[.int .i64 0, .int .i64 0, .int .i64 0, .int .i64 0, .int .i64 0, .int .i64 0, .int .i64 0, .int .i64 0] 51)).heap.size = w.heap.size + 1 := by simp
  refine ⟨(z w).alloc _, by rw [← s1]; exact z _, Nat.le_refl _, by omega, by omega, ((Below.refl _ _).alloc (Nat.le_refl _) _).alloc (by simp) _⟩
/-- Eight numbers, laid into an array. -/
def put8 (W : World) (R : Nat) (F : Nat → Int) : World :=
  (((((((W.setCell ⟨R, 0, none⟩ (.int .i64 (F 0))).setCell ⟨R, 1, none⟩ (.int .i64 (F 1))).setCell ⟨R, 2, none⟩ (.int .i64 (F 2))).setCell ⟨R, 3, none⟩ (.int .i64 (F 3))).setCell ⟨R, 4, none⟩ (.int .i64 (F 4))).setCell ⟨R, 5, none⟩ (.int .i64 (F 5))).setCell ⟨R, 6, none⟩ (.int .i64 (F 6))).setCell ⟨R, 7, none⟩ (.int .i64 (F 7))
theorem put8_row {W : World} {R : Nat} {f : Nat → Value} (h : W.rowIs R 51 8 f) (F : Nat → Int) : (put8 W R F).rowIs R 51 8 (fun j => .int .i64 (F j)) := by
  refine ((((((((h.set 0 (.int .i64 (F 0))).set 1 (.int .i64 (F 1))).set 2 (.int .i64 (F 2))).set 3 (.int .i64 (F 3))).set 4 (.int .i64 (F 4))).set 5 (.int .i64 (F 5))).set 6 (.int .i64 (F 6))).set 7 (.int .i64 (F 7))).congr fun j hj => ?_
  have : j = 0 ∨ j = 1 ∨ j = 2 ∨ j = 3 ∨ j = 4 ∨ j = 5 ∨ j = 6 ∨ j = 7 := by omega
  rcases this with rfl | rfl | rfl | rfl | rfl | rfl | rfl | rfl <;> rfl
theorem put8_below {w W : World} {R : Nat} (h : Below w.heap.size w W) (hR : w.heap.size ≤ R) (F : Nat → Int) : Below w.heap.size w (put8 W R F) :=
  (((((((h.setCell (p := ⟨R, 0, none⟩) hR _).setCell (p := ⟨R, 1, none⟩) hR _).setCell (p := ⟨R, 2, none⟩) hR _).setCell (p := ⟨R, 3, none⟩) hR _).setCell (p := ⟨R, 4, none⟩) hR _).setCell (p := ⟨R, 5, none⟩) hR _).setCell (p := ⟨R, 6, none⟩) hR _).setCell (p := ⟨R, 7, none⟩) hR _
theorem row8 {w : World} {R : Nat} {F : Nat → Int} (h : w.rowIs R 51 8 (fun j => .int .i64 (F j))) : w.heap[R]? = some (.cells (Plain.ar8 F) 51 (0, 0)) := by
  obtain ⟨c, hb, hs, hc⟩ := h
  have e : c = Plain.ar8 F := by
    apply Array.ext
    · rw [hs]; rfl
    · intro i h1 h2
      have h3 := hc i (by omega)
      rw [Array.getElem?_eq_getElem h1] at h3
      have h4 := Option.some.inj h3
      rw [h4]
      have : i = 0 ∨ i = 1 ∨ i = 2 ∨ i = 3 ∨ i = 4 ∨ i = 5 ∨ i = 6 ∨ i = 7 := by omega
      rcases this with rfl | rfl | rfl | rfl | rfl | rfl | rfl | rfl <;> rfl
  rw [hb, e]
theorem bodyPost_S {fn : Func} {p u : Tmp} {Q : Ending → World → Prop} {a : Act} {w : World} (h : fn.results = #[.cell p 51, .tmp u]) (R : Nat) (F : Nat → Int) (hp : a.tmps.getD p undef = .pointer (some ⟨R, 0, none⟩))
    (hg : w.rowIs R 51 8 (fun j => .int .i64 (F j))) (hd : a.defers = []) (hR : Q (.returned (.tuple #[.agg (Plain.ar8 F), a.tmps.getD u undef])) w) : bodyPost Try.prog fn Q .ret a w := by
  refine bodyPost_ret (v := .tuple #[.agg (Plain.ar8 F), a.tmps.getD u undef]) ?_ hd hR
  rw [results_cell_tmp h, hp]
  have hl := run_loadVar_row (P := Try.prog) w R 51 51 (Plain.ar8 F) (0, 0) _ (row8 hg) Try.underlying51 rfl (by kernel_rfl)
  simp [asAddr, hl]
/-- What slotsOf leaves. -/
def SlP (l : List Plain.En) (w : World) (e : Ending) (w' : World) : Prop :=
  ∃ F : Nat → Int, e = .returned (.tuple #[.agg (Plain.ar8 F), .int .i64 (if l.all Plain.fitE = true then 0 else 12)]) ∧ (l.all Plain.fitE = true → ∀ j, j < 8 → F j = ((Plain.slotAt l j : Nat) : Int)) ∧ Below w.heap.size w w'

set_option maxHeartbeats 4000000 in
theorem slotsOf_c (v : Value) (l : List Plain.En) (hm : Plain.mayL l = true) (w : World) (hs : SegN w v l) (hl : Lies w.heap.size v) :
    Calls Try.prog 19 #[v] w (SlP l w) := by
  obtain ⟨p, c, rfl, _⟩ := hs.form
  have HS := hid (fun (X : World) (b : Below w.heap.size w X) => segN_at (hs.below b hl))
  have h8 := ((Plain.may_iff l).1 hm).1
  have HM := hid ((Plain.may_iff l).1 hm).2
  have S0 := hid (SlI.start w)
  clear hs hl hm
  obtain ⟨R, hR⟩ : ∃ R, R = w.heap.size := ⟨_, rfl⟩
  obtain ⟨S, hS⟩ : ∃ S, S = w.heap.size + 1 := ⟨_, rfl⟩
  go_enter Try.func19, Try.ntmps19
  go_wp2
  rw [← hS, ← hR]
  rw [← hS, ← hR] at S0
  clear hS hR
  go_loopg [3, 6, 9] l.length (fun gg _ _ s9 wr => ∃ k : Nat, k ≤ l.length ∧ l.length - k ≤ gg ∧ s9 = .int .i64 k ∧ Aside (SlI w wr R S (fun j => ((Plain.slotAt (l.take k) j : Nat) : Int))) ∧ Aside ((l.take k).all Plain.fitE = true))
  case atStart => exact ⟨0, Nat.zero_le _, by omega, rfl, (show Aside _ from S0.out), rfl⟩
  case round =>
    obtain ⟨k, hk, hg, rfl, A, AF⟩ := hrel
    by_cases hlt : k < l.length
    · have hltz : (k : Int) < (l.length : Int) := by omega
      obtain ⟨b, off, rfl, hc⟩ := HS.out wr A.out.be (by omega)
      obtain ⟨c0, c1, c2, c3, c4⟩ := hc k hlt
      have HMB := hid (HM.out.1 _ (Plain.en_mem hlt))
      obtain ⟨x, hx⟩ : ∃ x, x = Plain.en l k := ⟨_, rfl⟩
      rw [← hx] at c0 c1 c2 c3 c4 HMB
      have HX := hid hx
      clear hx hc
      have bA : Below wr.heap.size wr (wr.alloc (boxE x)) := (Below.refl _ _).alloc (Nat.le_refl _) _
      have A2 := hid (A.out.grow bA)
      have hRlt : R < wr.heap.size := A.out.rr.lt
      have hRne : ¬ R = wr.heap.size := by omega
      have hRne' : ¬ wr.heap.size = R := by omega
      cases hfit : Plain.fitE x with
      | false =>
        have HF := hid (show l.all Plain.fitE = false from Plain.all_no Plain.fitE l default k hlt (by rw [show l.getD k default = x from HX.out.symm]; exact hfit))
        have hko : ¬ (x.key < 8 ∧ x.value ≤ 255) := fun h => by
          have : Plain.fitE x = true := by unfold Plain.fitE; rw [decide_eq_true h.1, decide_eq_true h.2]; rfl
          rw [hfit] at this; cases this
        clear hfit
        by_cases q1 : 8 ≤ x.key
        · clear hko AF HMB
          obtain ⟨xk, xv, xt, xo, xg⟩ := x
          dsimp only at *
          go_upto_region 6 with fail
          obtain ⟨W, hW⟩ : ∃ W, W = wr.alloc (boxE ⟨xk, xv, xt, xo, xg⟩) := ⟨_, rfl⟩
          rw [show wr.alloc (.cells #[.int .i64 xk, .int .i64 xv, .int .i64 xt, .int .i64 xo, .bool xg] 61) = W from hW.symm]
          have A3 := hid (show SlI w W R S (fun j => ((Plain.slotAt (l.take k) j : Nat) : Int)) by rw [hW]; exact A2.out)
          clear A2 A bA hW c0 c1 c2 c3 c4 hRlt hRne hRne' q1
          have y0 := A3.out.rr.cell (i := 0) (by omega)
          have y1 := A3.out.rr.cell (i := 1) (by omega)
          have y2 := A3.out.rr.cell (i := 2) (by omega)
          have y3 := A3.out.rr.cell (i := 3) (by omega)
          have y4 := A3.out.rr.cell (i := 4) (by omega)
          have y5 := A3.out.rr.cell (i := 5) (by omega)
          have y6 := A3.out.rr.cell (i := 6) (by omega)
          have y7 := A3.out.rr.cell (i := 7) (by omega)
          have f0 := A3.out.rr.frozen 0
          have f1 := A3.out.rr.frozen 1
          have f2 := A3.out.rr.frozen 2
          have f3 := A3.out.rr.frozen 3
          have f4 := A3.out.rr.frozen 4
          have f5 := A3.out.rr.frozen 5
          have f6 := A3.out.rr.frozen 6
          have f7 := A3.out.rr.frozen 7
          have hR3 : R < W.heap.size := A3.out.rr.lt
          go_wp2
          (try simp only [Exit.inBlock, Exit.then])
          change bodyPost Try.prog _ (SlP l w) Exit.ret _ (put8 W R (fun _ => 0))
          refine bodyPost_S rfl R (fun _ => 0) rfl (put8_row A3.out.rr (fun _ => 0)) rfl ⟨fun _ => 0, ?_, fun h => absurd h (by rw [HF.out]; decide), put8_below A3.out.be A3.out.hR _⟩
          rw [if_neg (by rw [HF.out]; decide)]
          rfl
        · have q2 : 255 < x.value := by omega
          clear hko AF HMB
          obtain ⟨xk, xv, xt, xo, xg⟩ := x
          dsimp only at *
          go_upto_region 6 with fail
          obtain ⟨W, hW⟩ : ∃ W, W = wr.alloc (boxE ⟨xk, xv, xt, xo, xg⟩) := ⟨_, rfl⟩
          rw [show wr.alloc (.cells #[.int .i64 xk, .int .i64 xv, .int .i64 xt, .int .i64 xo, .bool xg] 61) = W from hW.symm]
          have A3 := hid (show SlI w W R S (fun j => ((Plain.slotAt (l.take k) j : Nat) : Int)) by rw [hW]; exact A2.out)
          clear A2 A bA hW c0 c1 c2 c3 c4 hRlt hRne hRne' q1 q2
          have y0 := A3.out.rr.cell (i := 0) (by omega)
          have y1 := A3.out.rr.cell (i := 1) (by omega)
          have y2 := A3.out.rr.cell (i := 2) (by omega)
          have y3 := A3.out.rr.cell (i := 3) (by omega)
          have y4 := A3.out.rr.cell (i := 4) (by omega)
          have y5 := A3.out.rr.cell (i := 5) (by omega)
          have y6 := A3.out.rr.cell (i := 6) (by omega)
          have y7 := A3.out.rr.cell (i := 7) (by omega)
          have f0 := A3.out.rr.frozen 0
          have f1 := A3.out.rr.frozen 1
          have f2 := A3.out.rr.frozen 2
          have f3 := A3.out.rr.frozen 3
          have f4 := A3.out.rr.frozen 4
          have f5 := A3.out.rr.frozen 5
          have f6 := A3.out.rr.frozen 6
          have f7 := A3.out.rr.frozen 7
          have hR3 : R < W.heap.size := A3.out.rr.lt
          go_wp2
          (try simp only [Exit.inBlock, Exit.then])
          change bodyPost Try.prog _ (SlP l w) Exit.ret _ (put8 W R (fun _ => 0))
          refine bodyPost_S rfl R (fun _ => 0) rfl (put8_row A3.out.rr (fun _ => 0)) rfl ⟨fun _ => 0, ?_, fun h => absurd h (by rw [HF.out]; decide), put8_below A3.out.be A3.out.hR _⟩
          rw [if_neg (by rw [HF.out]; decide)]
          rfl
      | true =>
        have hko := Plain.fit_e hfit
        have hme := Plain.may_e HMB.out
        have KS := slotOf_c x HMB.out hfit
        have q1 : ¬ 8 ≤ x.key := by omega
        have q2 : ¬ 255 < x.value := by omega
        obtain ⟨kk, hkk⟩ : ∃ kk : Nat, x.key = kk := ⟨x.key.toNat, by omega⟩
        have hk8 : kk < 8 := by omega
        have HFT := hid (show (l.take (k + 1)).all Plain.fitE = true from Plain.all_take Plain.fitE l default k hlt AF.out (by rw [show l.getD k default = x from HX.out.symm]; exact hfit))
        have HSL := hid (fun j => show Plain.slotAt (l.take (k + 1)) j = if j = kk then Plain.slotN x else Plain.slotAt (l.take k) j by
          rw [Plain.slotAt_take HM.out.2 hlt, ← HX.out, hkk]
          by_cases e : j = kk
          · rw [if_pos (by omega), if_pos e]
          · rw [if_neg (by omega), if_neg e])
        have hHP := hid (show (wr.alloc (boxE x)).cell? ⟨wr.heap.size, 0, none⟩ = some (.int .i64 x.key) ∧ (wr.alloc (boxE x)).cell? ⟨wr.heap.size, 1, none⟩ = some (.int .i64 x.value) ∧ (wr.alloc (boxE x)).cell? ⟨wr.heap.size, 2, none⟩ = some (.int .i64 x.time) ∧ (wr.alloc (boxE x)).cell? ⟨wr.heap.size, 3, none⟩ = some (.int .i64 x.who) ∧ (wr.alloc (boxE x)).cell? ⟨wr.heap.size, 4, none⟩ = some (.bool x.gone) by
          refine ⟨?_, ?_, ?_, ?_, ?_⟩ <;> (rw [World.cell?_alloc_at _ _ _ _ rfl]; rfl))
        have HGL := hid (show wr.heap.size < (wr.alloc (boxE x)).heap.size by simp)
        generalize Plain.slotN x = z at KS HSL
        have HKS := hid KS
        have hSg : ¬ S = wr.heap.size := by have := A.out.rs.lt; omega
        have hSg' : ¬ wr.heap.size = S := by omega
        clear hko hme hfit AF HMB KS A bA
        obtain ⟨xk, xv, xt, xo, xg⟩ := x
        dsimp only at *
        subst hkk
        have hk8z : (kk : Int) < 8 := by omega
        go_upto_region 7 with fail
        obtain ⟨W, hW⟩ : ∃ W, W = wr.alloc (boxE ⟨kk, xv, xt, xo, xg⟩) := ⟨_, rfl⟩
        rw [show wr.alloc (.cells #[.int .i64 (kk : Int), .int .i64 xv, .int .i64 xt, .int .i64 xo, .bool xg] 61) = W from hW.symm]
        have A3 := hid (show SlI w W R S (fun j => ((Plain.slotAt (l.take k) j : Nat) : Int)) by rw [hW]; exact A2.out)
        have P3 := hHP.out
        have L3 := HGL.out
        rw [← hW] at P3 L3
        obtain ⟨g, hg'⟩ : ∃ g, g = wr.heap.size := ⟨_, rfl⟩
        rw [← hg'] at P3 L3 hSg hSg' ⊢
        obtain ⟨p0, p1, p2, p3, p4⟩ := P3
        clear A2 hHP HGL hW hg' c0 c1 c2 c3 c4 hRlt hRne hRne'
        have b0 := hid (show Below W.heap.size W W.drew from (Below.refl _ _).drew)
        have HSS := hid (fun (X : World) (b : Below W.heap.size W X) => (show X.cell? ⟨g, 0, none⟩ = some (.int .i64 (kk : Int)) ∧ X.cell? ⟨g, 1, none⟩ = some (.int .i64 xv) ∧ X.cell? ⟨g, 2, none⟩ = some (.int .i64 xt) ∧ X.cell? ⟨g, 3, none⟩ = some (.int .i64 xo) ∧ X.cell? ⟨g, 4, none⟩ = some (.bool xg) from
          ⟨(b.cell (p := ⟨g, 0, none⟩) L3).trans p0, (b.cell (p := ⟨g, 1, none⟩) L3).trans p1, (b.cell (p := ⟨g, 2, none⟩) L3).trans p2, (b.cell (p := ⟨g, 3, none⟩) L3).trans p3, (b.cell (p := ⟨g, 4, none⟩) L3).trans p4⟩))
        go_region_held3 (fun w' => w'.cell? ⟨g, 0, none⟩ = some (.int .i64 (kk : Int)) ∧ w'.cell? ⟨g, 1, none⟩ = some (.int .i64 xv) ∧ w'.cell? ⟨g, 2, none⟩ = some (.int .i64 xt) ∧ w'.cell? ⟨g, 3, none⟩ = some (.int .i64 xo) ∧ w'.cell? ⟨g, 4, none⟩ = some (.bool xg)) (go_keep)
          ((go_at_call 33; refine (HKS.out _).mono ?_; rintro e w1 ⟨rfl, hw1⟩; have b1 := hid (show Below W.heap.size W w1 by rw [hw1]; exact b0.out.alloc b0.out.size _); obtain ⟨g0, g1, g2, g3, g4⟩ := HSS.out w1 b1.out; have A4 := hid (A3.out.grow b1.out); have u0 := A4.out.rs.cell (i := kk) hk8; have u1 := A4.out.rs.frozen kk; have u2 : S < w1.heap.size := A4.out.rs.lt; clear hw1))
        have A5 := hid (A4.out.set kk (z : Int))
        clear g0 g1 g2 g3 g4 u0 u1 u2 A4
        go_wp2
        go_roundg (l.length - (k + 1))
        case measure => omega
        case rel => exact ⟨k + 1, by omega, by omega, by go_num, (show Aside _ from A5.out.congr fun j _ => by
          rw [HSL.out j]
          by_cases e : j = kk
          · rw [if_pos e, if_pos e]
          · rw [if_neg e, if_neg e]), (show Aside _ from HFT.out)⟩
    · have hltz : ¬ (k : Int) < (l.length : Int) := by omega
      have ek : k = l.length := by omega
      subst ek
      have hall := AF.out
      rw [List.take_length] at hall
      have HF := hid hall
      have A1 := hid (show SlI w wr R S (fun j => ((Plain.slotAt l j : Nat) : Int)) by have := A.out; rwa [List.take_length] at this)
      clear A AF hall
      have z0 := A1.out.rs.cell (i := 0) (by omega)
      have z1 := A1.out.rs.cell (i := 1) (by omega)
      have z2 := A1.out.rs.cell (i := 2) (by omega)
      have z3 := A1.out.rs.cell (i := 3) (by omega)
      have z4 := A1.out.rs.cell (i := 4) (by omega)
      have z5 := A1.out.rs.cell (i := 5) (by omega)
      have z6 := A1.out.rs.cell (i := 6) (by omega)
      have z7 := A1.out.rs.cell (i := 7) (by omega)
      have y0 := A1.out.rr.cell (i := 0) (by omega)
      have y1 := A1.out.rr.cell (i := 1) (by omega)
      have y2 := A1.out.rr.cell (i := 2) (by omega)
      have y3 := A1.out.rr.cell (i := 3) (by omega)
      have y4 := A1.out.rr.cell (i := 4) (by omega)
      have y5 := A1.out.rr.cell (i := 5) (by omega)
      have y6 := A1.out.rr.cell (i := 6) (by omega)
      have y7 := A1.out.rr.cell (i := 7) (by omega)
      have f0 := A1.out.rr.frozen 0
      have f1 := A1.out.rr.frozen 1
      have f2 := A1.out.rr.frozen 2
      have f3 := A1.out.rr.frozen 3
      have f4 := A1.out.rr.frozen 4
      have f5 := A1.out.rr.frozen 5
      have f6 := A1.out.rr.frozen 6
      have f7 := A1.out.rr.frozen 7
      have hRlt : R < wr.heap.size := A1.out.rr.lt

      go_wp2
      (try simp only [Exit.inBlock, Exit.then])
      change bodyPost Try.prog _ (SlP l w) Exit.ret _ (put8 wr R (fun j => ((Plain.slotAt l j : Nat) : Int)))
      refine bodyPost_S rfl R (fun j => ((Plain.slotAt l j : Nat) : Int)) rfl (put8_row A1.out.rr (fun j => ((Plain.slotAt l j : Nat) : Int))) rfl ⟨_, ?_, fun _ j _ => rfl, put8_below A1.out.be A1.out.hR _⟩
      rw [if_pos HF.out]
      rfl
end Go.Proofs.Ytkmnofmhjoehiam
