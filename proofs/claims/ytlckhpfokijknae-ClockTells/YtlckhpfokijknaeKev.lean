/-
  A contract of Events.
-/
import Derived.Test.YtlckhpfokijknaeKv
import Derived.Test.YtlckhpfokijknaePk
import Derived.Test.YtlckhpfokijknaeCe
import Derived.Test.YtlckhpfokijknaeCl
import Derived.Test.YtlckhpfokijknaeCr
import Derived.Deep.RegionHeld3
namespace Go.Proofs.Ytlckhpfokijknae
open Go.RowKit

theorem Try.infoEvent : (Try.prog.info? 32).map (fun i => (i.zero, i.size, i.bytes)) = some (some (.agg #[.int .i64 0, .int .i64 0, .int .i64 0]), 3, 24) := by kernel_rfl

/-- Events, as cells. -/
def evals (l : List Plain.Ev) : List Value := l.flatMap fun e => [.int .i64 e.1, .int .i64 e.2.1, .int .i64 e.2.2]
theorem evals_snoc (l : List Plain.Ev) (e : Plain.Ev) : evals (l ++ [e]) = evals l ++ [.int .i64 e.1, .int .i64 e.2.1, .int .i64 e.2.2] := by simp [evals]
def nvals (l : List Int) : List Value := l.map (Value.int .i64)
theorem nvals_snoc (l : List Int) (x : Int) : nvals (l ++ [x]) = nvals l ++ [.int .i64 x] := by simp [nvals]

/-- The events and the places of what was sent, in memory. -/
structure EI (l : List Plain.Ev) (i : Nat) (w0 w : World) (vo vs : Value) : Prop where
  oown : w.ownsRow w0.heap.size 32 3 vo i (evals (Plain.mk l i).1)
  sown : w.ownsRow w0.heap.size 3 1 vs (Plain.mk l i).2.length (nvals (Plain.mk l i).2)
  bel : Below w0.heap.size w0 w

variable {l : List Plain.Ev} {k : Nat} {w0 w w' : World} {vo vs : Value}
theorem owns_below {w w' : World} {B e s n : Nat} {v : Value} {xs : List Value} (h : w.ownsRow B e s v n xs) (g : Below w.heap.size w w') : w'.ownsRow B e s v n xs :=
  h.kept (row := none) ⟨g.os, g.tape, g.output, g.size, fun k hk _ => g.block k hk⟩ (by cases hv : v.ownBlock <;> simp)
theorem row_owns_ne {w : World} {b t n B e s m : Nat} {f : Nat → Value} {v : Value} {xs : List Value} (h : w.rowIs b t n f) (o : w.ownsRow B e s v m xs) (hne : t ≠ e) : some b ≠ v.ownBlock := by
  intro e1
  obtain ⟨c, hc, _⟩ := h
  rcases o.2 with ⟨rfl, _⟩ | ⟨g, cap, cur, rfl, _, hg, _⟩
  · simp [Value.ownBlock] at e1
  · simp only [Value.ownBlock, Option.some.injEq] at e1
    subst e1
    rw [hc] at hg
    simp at hg
    exact hne hg.2
theorem owns_owns_ne {w : World} {B e1 e2 s1 s2 m1 m2 : Nat} {v1 v2 : Value} {xs1 xs2 : List Value} (o1 : w.ownsRow B e1 s1 v1 m1 xs1) (o2 : w.ownsRow B e2 s2 v2 m2 xs2) (hne : e1 ≠ e2) : v1.ownBlock = none ∨ v1.ownBlock ≠ v2.ownBlock := by
  rcases o1.2 with ⟨rfl, _⟩ | ⟨g, cap, cur, rfl, _, hg, _⟩
  · exact .inl rfl
  · right
    intro e
    rcases o2.2 with ⟨rfl, _⟩ | ⟨g', cap', cur', rfl, _, hg', _⟩
    · simp [Value.ownBlock] at e
    · simp only [Value.ownBlock, Option.some.injEq] at e
      subst e
      rw [hg] at hg'
      simp at hg'
      exact hne hg'.2
theorem EI.grow (h : EI l k w0 w vo vs) (g : Below w.heap.size w w') : EI l k w0 w' vo vs := ⟨owns_below h.oown g, owns_below h.sown g, h.bel.trans (g.mono h.bel.size)⟩

/-- A copy of an event in a block of its own. -/
def Box (w : World) (be : Nat) (x y z : Int) : Prop := w.rowIs be 32 3 (fun i => if i = 0 then .int .i64 x else if i = 1 then .int .i64 y else .int .i64 z)
theorem Box.cells {be : Nat} {x y z : Int} (h : Box w be x y z) : w.cell? ⟨be, 0, none⟩ = some (.int .i64 x) ∧ w.cell? ⟨be, 1, none⟩ = some (.int .i64 y) ∧ w.cell? ⟨be, 2, none⟩ = some (.int .i64 z) ∧ be < w.heap.size ∧ w.frozen? ⟨be, 0, none⟩ = false ∧ w.frozen? ⟨be, 2, none⟩ = false :=
  ⟨World.rowIs.cell h (i := 0) (by omega), World.rowIs.cell h (i := 1) (by omega), World.rowIs.cell h (i := 2) (by omega), World.rowIs.lt h, World.rowIs.frozen h 0, World.rowIs.frozen h 2⟩
theorem Box.made (w : World) (x y z : Int) : Box (w.alloc (.cells #[.int .i64 x, .int .i64 y, .int .i64 z] 32)) w.heap.size x y z :=
  World.rowIs_alloc w #[.int .i64 x, .int .i64 y, .int .i64 z] 32 _ (fun i hi => by
    simp at hi
    match i, hi with
    | 0, _ => rfl
    | 1, _ => rfl
    | 2, _ => rfl)
theorem Box.set0 {be : Nat} {x y z : Int} (h : Box w be x y z) (u : Int) : Box (w.setCell ⟨be, 0, none⟩ (.int .i64 u)) be u y z :=
  (World.rowIs.set h 0 (.int .i64 u)).congr fun i _ => by
    by_cases e : i = 0
    · simp [e]
    · simp [e]
theorem Box.set2 {be : Nat} {x y z : Int} (h : Box w be x y z) (u : Int) : Box (w.setCell ⟨be, 2, none⟩ (.int .i64 u)) be x y u :=
  (World.rowIs.set h 2 (.int .i64 u)).congr fun i hi => by
    match i, hi with
    | 0, _ => rfl
    | 1, _ => rfl
    | 2, _ => rfl
theorem Box.of_block {be : Nat} {x y z : Int} (h : Box w be x y z) (e : w'.heap[be]? = w.heap[be]?) : Box w' be x y z := World.rowIs.of_block h e

/-- What stands there ahead of the append of the event. -/
structure EA (l : List Plain.Ev) (k : Nat) (w0 w : World) (vo vs : Value) (be : Nat) (x y z : Int) : Prop where
  oown : w.ownsRow w0.heap.size 32 3 vo k (evals (Plain.mk l k).1)
  sown : w.ownsRow w0.heap.size 3 1 vs (Plain.mk l (k + 1)).2.length (nvals (Plain.mk l (k + 1)).2)
  bel : Below w0.heap.size w0 w
  box : Box w be x y z
  ev : Plain.hv (Plain.ev l k) (Plain.mk l k).2 = (x, y, z)
theorem EA.next {be : Nat} {x y z : Int} {w1 : World} {o : Obj} {vo' : Value} (h : EA l k w0 w vo vs be x y z) (hg : (w.alloc o).grownBy w1 vo.ownBlock)
    (hown : w1.ownsRow w0.heap.size 32 3 vo' (k + 1) (evals (Plain.mk l k).1 ++ [.int .i64 x, .int .i64 y, .int .i64 z])) : EI l (k + 1) w0 w1 vo' vs := by
  have h1 := h.sown.alloc o
  have h2 := h.oown.alloc o
  refine ⟨?_, h1.kept hg (owns_owns_ne h1 h2 (by decide)), (h.bel.alloc h.bel.size o).grown hg (Nat.le_trans h.bel.size (by simp)) fun j hj => (h2.lt j hj).1⟩
  show w1.ownsRow _ _ _ _ _ (evals ((Plain.mk l k).1 ++ [Plain.hv (Plain.ev l k) (Plain.mk l k).2]))
  rw [evals_snoc, h.ev]
  exact hown
/-- Where nothing is sent. -/
theorem EA.plain {be : Nat} {x y z : Int} {wx : World} (h : EI l k w0 w vo vs) (g : Below w.heap.size w wx) (hb : Box wx be x y z) (he : Plain.hv (Plain.ev l k) (Plain.mk l k).2 = (x, y, z)) (hx : x ≠ 2) : EA l k w0 wx vo vs be x y z := by
  have h2 := h.grow g
  have e : (Plain.mk l (k + 1)).2 = (Plain.mk l k).2 := by show (if _ then _ else _) = _; rw [he, if_neg hx]
  exact ⟨h2.oown, by rw [e]; exact h2.sown, h2.bel, hb, he⟩
theorem EA.sent {be : Nat} {y z : Int} {wx w1 : World} {o : Obj} {vs' : Value} (h : EI l k w0 w vo vs) (g : Below w.heap.size w wx) (hb : Box wx be 2 y z) (he : Plain.hv (Plain.ev l k) (Plain.mk l k).2 = (2, y, z))
    (hg : (wx.alloc o).grownBy w1 vs.ownBlock) (hown : w1.ownsRow w0.heap.size 3 1 vs' ((Plain.mk l k).2.length + 1) (nvals (Plain.mk l k).2 ++ [.int .i64 k])) : EA l k w0 w1 vo vs' be 2 y z := by
  have h2 := (h.grow g).grow ((Below.refl _ _).alloc (Nat.le_refl _) o)
  have hb2 : Box (wx.alloc o) be 2 y z := World.rowIs.alloc hb o
  have e : (Plain.mk l (k + 1)).2 = (Plain.mk l k).2 ++ [(k : Int)] := by show (if _ then _ else _) = _; rw [he, if_pos rfl]
  refine ⟨h2.oown.kept hg (owns_owns_ne h2.oown h2.sown (by decide)), ?_, h2.bel.grown hg h2.bel.size fun j hj => (h2.sown.lt j hj).1, hb2.of_block (hg.block _ (World.rowIs.lt hb2) (row_owns_ne hb2 h2.sown (by decide))), he⟩
  rw [e, nvals_snoc, List.length_append]
  exact hown
theorem news3 (w : World) (x y z : Value) (t : TypeId) : ∀ j u, [x, y, z][j]? = some u → (w.alloc (.cells #[x, y, z] t)).cell? ((⟨w.heap.size, 0, none⟩ : Addr).add j) = some u := by
  intro j u hj
  have b2 : (w.alloc (.cells #[x, y, z] t)).heap[w.heap.size]? = some (.cells #[x, y, z] t (0, 0)) := Deep.blk_alloc_new _ _
  match j, hj with
  | 0, hj => simp at hj; subst hj; unfold World.cell? Addr.add; simp only [if_true]; rw [b2]; rfl
  | 1, hj => simp at hj; subst hj; unfold World.cell? Addr.add; simp only; rw [if_neg (by omega)]; simp only; rw [b2]; rfl
  | 2, hj => simp at hj; subst hj; unfold World.cell? Addr.add; simp only; rw [if_neg (by omega)]; simp only; rw [b2]; rfl
theorem news3b {w : World} {B : Nat} (h : w.heap.size = B) (x y z : Value) (t : TypeId) : ∀ j u, [x, y, z][j]? = some u → (w.alloc (.cells #[x, y, z] t)).cell? ((⟨B, 0, none⟩ : Addr).add j) = some u := by
  subst h; exact news3 w x y z t
theorem new_cell0 (w : World) (v : Value) (t : TypeId) : (w.alloc (.cells #[v] t)).cell? ⟨w.heap.size, 0, none⟩ = some v := by simp
theorem sent_cell {B m gs c j : Nat} {xs : List Int} (h : w.ownsRow B 3 1 (.slice (some ⟨gs, 0, none⟩) m c) m (nvals xs)) (hj : j < xs.length) : w.cell? ⟨gs, j, none⟩ = some (.int .i64 (xs.getD j 0)) := by
  have := h.cells rfl j (.int .i64 (xs.getD j 0)) (by simp [nvals, hj])
  by_cases e : j = 0
  · subst e; simpa [Addr.add] using this
  · simpa [Addr.add, e] using this

set_option maxHeartbeats 8000000 in
set_option maxRecDepth 100000 in
theorem kevents_some (b off cap : Nat) (l : List Plain.Ev) (hl : l.length ≤ 9223372036854775807) (hr : ∀ j, j < l.length → (-9223372036854775808 ≤ (Plain.ev l j).1 ∧ (Plain.ev l j).1 ≤ 9223372036854775807) ∧ (-9223372036854775808 ≤ (Plain.ev l j).2.1 ∧ (Plain.ev l j).2.1 ≤ 9223372036854775807) ∧ (-9223372036854775808 ≤ (Plain.ev l j).2.2 ∧ (Plain.ev l j).2.2 ≤ 9223372036854775807))
    (w : World) (hc : CellsE w b off l) (hb : 0 < l.length → b < w.heap.size) :
    Calls Try.prog 5 #[.slice (some ⟨b, off, none⟩) l.length cap, .int .i64 60] w fun e w' =>
      ∃ v, e = .returned v ∧ w'.ownsRow w.heap.size 32 3 v (Plain.evN l) (evals (Plain.evs l)) ∧ Below w.heap.size w w' := by
  have HC := hid hc
  have HRR := hid hr
  clear hc hr
  go_enter Try.func5, Try.ntmps5
  go_wp2
  go_loopw [5, 6, 7] (fun vo vs i wx => ∃ k : Nat, k ≤ l.length ∧ k ≤ 60 ∧ i = .int .i64 k ∧ EI l k w wx vo vs) (fun _ _ i _ => 60 - (intOf i).toNat)
  case atStart => exact ⟨0, Nat.zero_le _, by omega, rfl, World.ownsRow_nil _ _ _ _, World.ownsRow_nil _ _ _ _, Below.refl _ _⟩
  case round =>
    obtain ⟨k, hk, hk60, rfl, hei⟩ := hrel
    have HE := hid hei
    clear hei
    by_cases hlt : k < l.length ∧ k < 60
    · obtain ⟨hlt1, hlt2⟩ := hlt
      have hlt1' : (k : Int) < (l.length : Int) := by omega
      have hlt2' : (k : Int) < 60 := by omega
      have hbb : b < wr.heap.size := Nat.lt_of_lt_of_le (hb (by omega)) HE.out.bel.size
      obtain ⟨g0, g1, g2⟩ := HC.out.below HE.out.bel (hb (by omega)) k hlt1
      obtain ⟨r0, r1, r2⟩ := HRR.out k hlt1
      obtain ⟨x, y, z, hev⟩ : ∃ x y z, Plain.ev l k = (x, y, z) := ⟨_, _, _, rfl⟩
      rw [hev] at g0 g1 g2 r0 r1 r2
      simp only at g0 g1 g2 r0 r1 r2
      have HV := hid hev
      clear hev
      have K0 := fun u => picked_any x 3 r0.1 r0.2 (by omega) (by omega) u
      have K1 := fun u => picked_any y 4 r1.1 r1.2 (by omega) (by omega) u
      have hA : x % 3 = 0 ∨ x % 3 = 1 ∨ x % 3 = 2 := by omega
      obtain ⟨A, hAx⟩ : ∃ A, A = x % 3 := ⟨_, rfl⟩
      obtain ⟨W, hWy⟩ : ∃ W, W = y % 4 := ⟨_, rfl⟩
      rw [← hAx] at K0 hA
      rw [← hWy] at K1
      have HA := hid hAx
      have HW := hid hWy
      clear hAx hWy
      have hk0 : (0 : Int) ≤ (k : Int) := by omega
      rcases hA with rfl | rfl | rfl
      · have q0 : IntKind.i64.wrap 1 = 1 := by decide
        have HH := hid (show Plain.hv (Plain.ev l k) (Plain.mk l k).2 = (1, W, 0) by unfold Plain.hv; rw [HV.out]; simp only; rw [← HA.out, ← HW.out, if_neg (by decide)]; rfl)
        go_wp2
        go_region_held3 (fun w' => w'.cell? ⟨b, off + k * 3, none⟩ = some (.int .i64 x) ∧ w'.cell? ⟨b, off + k * 3 + 1, none⟩ = some (.int .i64 y)) (go_keep)
          (first | (go_at_call_of 9 (Value.int .i64 x); refine (K0 _).mono ?_; rintro e w' ⟨rfl, rfl⟩) | (go_at_call_of 9 (Value.int .i64 y); refine (K1 _).mono ?_; rintro e w' ⟨rfl, rfl⟩))
        all_goals
          obtain ⟨wb, hwb⟩ : ∃ wb, wb = (wr.alloc (.cells #[.int .i64 1, .int .i64 W, .int .i64 0] 32)).drew := ⟨_, rfl⟩
          rw [← hwb]
          have BB := hid (show Below wr.heap.size wr wb by rw [hwb]; exact ((Below.refl _ _).alloc (Nat.le_refl _) _).drew)
          have BX := hid (show Box wb wr.heap.size 1 W 0 by rw [hwb]; exact Box.made wr 1 W 0)
          clear hwb K0 K1 g0 g1
          have AA := hid (EA.plain HE.out BB.out BX.out HH.out (by decide))
          have GE := hid (Nat.le_trans AA.out.bel.size (Nat.le_succ wb.heap.size))
          obtain ⟨p0, p1, p2, p3, p4, p5⟩ := AA.out.box.cells
          obtain ⟨i1, hi, hz0, hz1, hz2⟩ := info_parts Try.infoEvent
          go_wp2_with (first
            | (at_builtin; refine wpList_append_own _ rfl _ _ 23 rfl w.heap.size 32 i1 (.agg #[.int .i64 0, .int .i64 0, .int .i64 0]) 3 24 Try.underlying23 hi hz0 hz1 hz2 rfl (by decide) _ _ _ rfl (AA.out.oown.alloc _) ⟨wb.heap.size, 0, none⟩ 1 1 [.int .i64 1, .int .i64 W, .int .i64 0] rfl rfl ?c1 ?c2 ?c3 ?c4 ?c5 ?_)
            | go_in)
          case c1 => first | exact news3 _ _ _ _ _ | exact news3b (by simp) _ _ _ _
          case c2 => first | rfl | (intro u hu; simp at hu; rcases hu with rfl | rfl | rfl <;> rfl) | exact ⟨rfl, rfl, rfl⟩
          case c3 => unfold maxLen; omega
          case c4 => omega
          case c5 => have := GE.out; simp; omega
          intro vo' w1 hown' hgrow _
          have RR := hid (AA.out.next hgrow hown')
          clear hown' hgrow hi hz0 hz1 hz2 p0 p1 p2 p3 p4 p5
          go_wp2
          go_roundw
          case rel => first | exact ⟨k + 1, by omega, by omega, by go_num, RR.out⟩ | ((repeat apply Exists.intro); refine ⟨⟨k + 1, by omega, by omega, ?_, RR.out⟩, rfl⟩; go_num)
          case measure => simp [intOf]; omega
      · have q0 : IntKind.i64.wrap 2 = 2 := by decide
        have HH := hid (show Plain.hv (Plain.ev l k) (Plain.mk l k).2 = (2, W, 0) by unfold Plain.hv; rw [HV.out]; simp only; rw [← HA.out, ← HW.out, if_neg (by decide)]; rfl)
        go_wp2
        go_region_held3 (fun w' => w'.cell? ⟨b, off + k * 3, none⟩ = some (.int .i64 x) ∧ w'.cell? ⟨b, off + k * 3 + 1, none⟩ = some (.int .i64 y)) (go_keep)
          (first | (go_at_call_of 9 (Value.int .i64 x); refine (K0 _).mono ?_; rintro e w' ⟨rfl, rfl⟩) | (go_at_call_of 9 (Value.int .i64 y); refine (K1 _).mono ?_; rintro e w' ⟨rfl, rfl⟩))
        all_goals
          obtain ⟨wb, hwb⟩ : ∃ wb, wb = (wr.alloc (.cells #[.int .i64 2, .int .i64 W, .int .i64 0] 32)).drew := ⟨_, rfl⟩
          rw [← hwb]
          have BB := hid (show Below wr.heap.size wr wb by rw [hwb]; exact ((Below.refl _ _).alloc (Nat.le_refl _) _).drew)
          have BX := hid (show Box wb wr.heap.size 2 W 0 by rw [hwb]; exact Box.made wr 2 W 0)
          clear hwb K0 K1 g0 g1
          obtain ⟨p0, p1, p2, p3, p4, p5⟩ := BX.out.cells
          have GS := hid (Nat.le_trans HE.out.bel.size BB.out.size)
          have SL := hid (Plain.mk_sent_len l k)
          obtain ⟨i1, hi, hz0, hz1, hz2⟩ := info_parts Try.infoInt
          go_wp2_with (first
            | (at_builtin; refine wpList_append_own _ rfl _ _ 34 rfl w.heap.size 3 i1 (.int .i64 0) 1 8 Try.underlying34 hi hz0 hz1 hz2 rfl (by decide) _ _ _ rfl ((HE.out.grow BB.out).sown.alloc _) ⟨wb.heap.size, 0, none⟩ 1 1 [.int .i64 k] rfl rfl ?d1 ?d2 ?d3 ?d4 ?d5 ?_)
            | go_in)
          case d1 =>
            intro j u hj
            match j, hj with
            | 0, hj => simp at hj; subst hj; exact new_cell0 _ _ _
          case d2 => intro u hu; simp at hu; subst hu; rfl
          case d3 => have := SL.out; unfold maxLen; omega
          case d4 => have := SL.out; omega
          case d5 => have := GS.out; simp; omega
          intro vs' ws hown' hgrow _
          have AA := hid (EA.sent HE.out BB.out BX.out HH.out hgrow hown')
          clear hown' hgrow hi hz0 hz1 hz2 p0 p1 p2 p3 p4 p5
          have GE := hid (Nat.le_trans AA.out.bel.size (Nat.le_succ ws.heap.size))
          obtain ⟨p0, p1, p2, p3, p4, p5⟩ := AA.out.box.cells
          obtain ⟨i1, hi, hz0, hz1, hz2⟩ := info_parts Try.infoEvent
          go_wp2_with (first
            | (at_builtin; refine wpList_append_own _ rfl _ _ 23 rfl w.heap.size 32 i1 (.agg #[.int .i64 0, .int .i64 0, .int .i64 0]) 3 24 Try.underlying23 hi hz0 hz1 hz2 rfl (by decide) _ _ _ rfl (AA.out.oown.alloc _) ⟨ws.heap.size, 0, none⟩ 1 1 [.int .i64 2, .int .i64 W, .int .i64 0] rfl rfl ?c1 ?c2 ?c3 ?c4 ?c5 ?_)
            | go_in)
          case c1 => first | exact news3 _ _ _ _ _ | exact news3b (by simp) _ _ _ _
          case c2 => first | rfl | (intro u hu; simp at hu; rcases hu with rfl | rfl | rfl <;> rfl) | exact ⟨rfl, rfl, rfl⟩
          case c3 => unfold maxLen; omega
          case c4 => omega
          case c5 => have := GE.out; simp; omega
          intro vo' w1 hown' hgrow _
          have RR := hid (AA.out.next hgrow hown')
          clear hown' hgrow hi hz0 hz1 hz2 p0 p1 p2 p3 p4 p5
          go_wp2
          go_roundw
          case rel => first | exact ⟨k + 1, by omega, by omega, by go_num, RR.out⟩ | ((repeat apply Exists.intro); refine ⟨⟨k + 1, by omega, by omega, ?_, RR.out⟩, rfl⟩; go_num)
          case measure => simp [intOf]; omega
      · have q0 : IntKind.i64.wrap 3 = 3 := by decide
        by_cases hs0 : (Plain.mk l k).2.length = 0
        · have HH := hid (show Plain.hv (Plain.ev l k) (Plain.mk l k).2 = (1, W, 0) by unfold Plain.hv; rw [HV.out]; simp only; rw [← HA.out, ← HW.out, if_pos rfl, if_pos hs0])
          have hvs : u6 = .slice none 0 0 ∨ ∃ gs cs, u6 = .slice (some ⟨gs, 0, none⟩) 0 cs := by
            rcases HE.out.sown.2 with ⟨e, _⟩ | ⟨gs, cs, _, e, _⟩
            · exact .inl e
            · rw [hs0] at e; exact .inr ⟨gs, cs, e⟩
          rcases hvs with rfl | ⟨gs, cs, rfl⟩
          all_goals
            go_wp2
            go_region_held3 (fun w' => w'.cell? ⟨b, off + k * 3, none⟩ = some (.int .i64 x) ∧ w'.cell? ⟨b, off + k * 3 + 1, none⟩ = some (.int .i64 y)) (go_keep)
              (first | (go_at_call_of 9 (Value.int .i64 x); refine (K0 _).mono ?_; rintro e w' ⟨rfl, rfl⟩) | (go_at_call_of 9 (Value.int .i64 y); refine (K1 _).mono ?_; rintro e w' ⟨rfl, rfl⟩))
            all_goals
              obtain ⟨wb, hwb⟩ : ∃ wb, wb = (wr.alloc (.cells #[.int .i64 3, .int .i64 W, .int .i64 0] 32)).drew := ⟨_, rfl⟩
              rw [← hwb]
              have BB := hid (show Below wr.heap.size wr wb by rw [hwb]; exact ((Below.refl _ _).alloc (Nat.le_refl _) _).drew)
              have BX := hid (show Box wb wr.heap.size 3 W 0 by rw [hwb]; exact Box.made wr 3 W 0)
              clear hwb K0 K1 g0 g1
              obtain ⟨p0, p1, p2, p3, p4, p5⟩ := BX.out.cells
              have AA := hid (EA.plain (wx := wb.setCell ⟨wr.heap.size, 0, none⟩ (.int .i64 1)) HE.out (BB.out.setCell (p := ⟨wr.heap.size, 0, none⟩) (Nat.le_refl _) _) (BX.out.set0 1) HH.out (by decide))
              have GE := hid (show w.heap.size ≤ wb.heap.size + 1 from Nat.le_trans (Nat.le_trans HE.out.bel.size BB.out.size) (Nat.le_succ _))
              obtain ⟨i1, hi, hz0, hz1, hz2⟩ := info_parts Try.infoEvent
              go_wp2_with (first
                | (at_builtin; refine wpList_append_own _ rfl _ _ 23 rfl w.heap.size 32 i1 (.agg #[.int .i64 0, .int .i64 0, .int .i64 0]) 3 24 Try.underlying23 hi hz0 hz1 hz2 rfl (by decide) _ _ _ rfl (AA.out.oown.alloc _) ⟨wb.heap.size, 0, none⟩ 1 1 [.int .i64 1, .int .i64 W, .int .i64 0] rfl rfl ?c1 ?c2 ?c3 ?c4 ?c5 ?_)
                | go_in)
              case c1 => first | exact news3 _ _ _ _ _ | exact news3b (by simp) _ _ _ _
              case c2 => first | rfl | (intro u hu; simp at hu; rcases hu with rfl | rfl | rfl <;> rfl) | exact ⟨rfl, rfl, rfl⟩
              case c3 => unfold maxLen; omega
              case c4 => omega
              case c5 => have := GE.out; simp; omega
              intro vo' w1 hown' hgrow _
              have RR := hid (AA.out.next hgrow hown')
              clear hown' hgrow hi hz0 hz1 hz2 p0 p1 p2 p3 p4 p5
              go_wp2
              go_roundw
              case rel => first | exact ⟨k + 1, by omega, by omega, by go_num, RR.out⟩ | ((repeat apply Exists.intro); refine ⟨⟨k + 1, by omega, by omega, ?_, RR.out⟩, rfl⟩; go_num)
              case measure => simp [intOf]; omega
        · obtain ⟨gs, cs, hvs⟩ := owns_some HE.out.sown (show 0 < (Plain.mk l k).2.length by omega)
          subst hvs
          obtain ⟨t, ht⟩ : ∃ t : Nat, z % ((Plain.mk l k).2.length : Int) = (t : Int) := Int.eq_ofNat_of_zero_le (Int.emod_nonneg z (by omega))
          have htl : t < (Plain.mk l k).2.length := by have := Int.emod_lt_of_pos z (show 0 < ((Plain.mk l k).2.length : Int) by omega); omega
          have HH := hid (show Plain.hv (Plain.ev l k) (Plain.mk l k).2 = (3, W, (Plain.mk l k).2.getD t 0) by unfold Plain.hv; rw [HV.out]; simp only; rw [← HA.out, ← HW.out, if_pos rfl, if_neg hs0, ht]; rfl)
          have SL := hid (Plain.mk_sent_len l k)
          have K2 := fun u => picked_any z ((Plain.mk l k).2.length : Int) r2.1 r2.2 (by omega) (by have := SL.out; omega) u
          rw [ht] at K2
          have SC := hid (sent_cell (j := t) HE.out.sown htl)
          have hgs : gs < wr.heap.size := (HE.out.sown.lt gs rfl).2
          generalize (Plain.mk l k).2.getD t 0 = oo at HH SC
          obtain ⟨S, hS⟩ : ∃ S, S = (Plain.mk l k).2.length := ⟨_, rfl⟩
          rw [← hS] at hs0 htl K2 ⊢
          replace HE := hid (show EI l k w wr u5 (.slice (some ⟨gs, 0, none⟩) S cs) by rw [hS]; exact HE.out)
          clear hS ht
          have htl' : (t : Int) < (S : Int) := by omega
          have hs0' : ((S : Int) == 0) = false := beq_false_of_ne (by omega)
          go_wp2
          go_region_held3 (fun w' => w'.cell? ⟨b, off + k * 3, none⟩ = some (.int .i64 x) ∧ w'.cell? ⟨b, off + k * 3 + 1, none⟩ = some (.int .i64 y)) (go_keep)
            (first | (go_at_call_of 9 (Value.int .i64 x); refine (K0 _).mono ?_; rintro e w' ⟨rfl, rfl⟩) | (go_at_call_of 9 (Value.int .i64 y); refine (K1 _).mono ?_; rintro e w' ⟨rfl, rfl⟩))
          all_goals
            obtain ⟨wb, hwb⟩ : ∃ wb, wb = (wr.alloc (.cells #[.int .i64 3, .int .i64 W, .int .i64 0] 32)).drew := ⟨_, rfl⟩
            rw [← hwb]
            have BB := hid (show Below wr.heap.size wr wb by rw [hwb]; exact ((Below.refl _ _).alloc (Nat.le_refl _) _).drew)
            have BX := hid (show Box wb wr.heap.size 3 W 0 by rw [hwb]; exact Box.made wr 3 W 0)
            clear hwb K0 K1 g0 g1
            obtain ⟨p0, p1, p2, p3, p4, p5⟩ := BX.out.cells
            have sc := (BB.out.cell (p := ⟨gs, t, none⟩) hgs).trans SC.out
            have g3 := (BB.out.cell (p := ⟨b, off + k * 3 + 2, none⟩) hbb).trans g2
            go_wp2_with fail
            refine (K2 _).mono ?_
            rintro e wy ⟨rfl, hx⟩
            have hy := hx.symm
            clear hx
            subst hy
            have AA := hid (EA.plain (wx := wb.setCell ⟨wr.heap.size, 2, none⟩ (.int .i64 oo)) HE.out (BB.out.setCell (p := ⟨wr.heap.size, 2, none⟩) (Nat.le_refl _) _) (BX.out.set2 oo) HH.out (by decide))
            have GE := hid (show w.heap.size ≤ wb.heap.size + 1 from Nat.le_trans (Nat.le_trans HE.out.bel.size BB.out.size) (Nat.le_succ _))
            obtain ⟨i1, hi, hz0, hz1, hz2⟩ := info_parts Try.infoEvent
            go_wp2_with (first
              | (at_builtin; refine wpList_append_own _ rfl _ _ 23 rfl w.heap.size 32 i1 (.agg #[.int .i64 0, .int .i64 0, .int .i64 0]) 3 24 Try.underlying23 hi hz0 hz1 hz2 rfl (by decide) _ _ _ rfl (AA.out.oown.alloc _) ⟨wb.heap.size, 0, none⟩ 1 1 [.int .i64 3, .int .i64 W, .int .i64 oo] rfl rfl ?c1 ?c2 ?c3 ?c4 ?c5 ?_)
              | go_in)
            case c1 => first | exact news3 _ _ _ _ _ | exact news3b (by simp) _ _ _ _
            case c2 => first | rfl | (intro u hu; simp at hu; rcases hu with rfl | rfl | rfl <;> rfl) | exact ⟨rfl, rfl, rfl⟩
            case c3 => unfold maxLen; omega
            case c4 => omega
            case c5 => have := GE.out; simp; omega
            intro vo' w1 hown' hgrow _
            have RR := hid (AA.out.next hgrow hown')
            clear hown' hgrow hi hz0 hz1 hz2 p0 p1 p2 p3 p4 p5
            go_wp2
            go_roundw
            case rel => first | exact ⟨k + 1, by omega, by omega, by go_num, RR.out⟩ | ((repeat apply Exists.intro); refine ⟨⟨k + 1, by omega, by omega, ?_, RR.out⟩, rfl⟩; go_num)
            case measure => simp [intOf]; omega
    · have ek : Plain.evN l = k := by unfold Plain.evN; omega
      have HO := hid (show wr.ownsRow w.heap.size 32 3 u5 (Plain.evN l) (evals (Plain.evs l)) by unfold Plain.evs; rw [ek]; exact HE.out.oown)
      have HB := hid HE.out.bel
      clear HE
      by_cases hlt1 : k < l.length
      · have h20 : k = 60 := by omega
        subst h20
        clear hlt ek
        go_wp2
        go_ret
        exact ⟨_, rfl, HO.out, HB.out⟩
      · clear hlt ek
        have hlt1' : ¬ (k : Int) < (l.length : Int) := by omega
        go_wp2
        go_ret
        exact ⟨_, rfl, HO.out, HB.out⟩

set_option maxHeartbeats 400000 in
theorem kevents_nil (p : Option Addr) (cap : Nat) (w : World) :
    Calls Try.prog 5 #[.slice p 0 cap, .int .i64 60] w fun e w' => e = .returned (.slice none 0 0) ∧ w' = w := by
  go_enter Try.func5, Try.ntmps5
  go_wp2
  refine wp_loop_rounds 1 ?_
  rw [rounds_succ]
  go_wp2
  go_ret
  exact ⟨rfl, rfl⟩

/-- Events at whatever happenings: what it answers holds the events, in memory of its own. -/
theorem kevents_any (v : Value) (l : List Plain.Ev) (hl : l.length ≤ 9223372036854775807) (hr : ∀ j, j < l.length → (-9223372036854775808 ≤ (Plain.ev l j).1 ∧ (Plain.ev l j).1 ≤ 9223372036854775807) ∧ (-9223372036854775808 ≤ (Plain.ev l j).2.1 ∧ (Plain.ev l j).2.1 ≤ 9223372036854775807) ∧ (-9223372036854775808 ≤ (Plain.ev l j).2.2 ∧ (Plain.ev l j).2.2 ≤ 9223372036854775807))
    (w : World) (h : SegE w v l) (hv : Lies w.heap.size v) :
    Calls Try.prog 5 #[v, .int .i64 60] w fun e w' => ∃ r, e = .returned r ∧ w'.ownsRow w.heap.size 32 3 r (Plain.evN l) (evals (Plain.evs l)) ∧ Below w.heap.size w w' := by
  rcases h with ⟨rfl, p, c, rfl⟩ | ⟨b, o, c, rfl, hc, g⟩
  · refine (kevents_nil p c w).mono ?_
    rintro e w' ⟨rfl, rfl⟩
    exact ⟨_, rfl, World.ownsRow_nil _ _ _ _, Below.refl _ _⟩
  · exact kevents_some b o c l hl hr w g (fun hp => hv _ _ _ rfl hp)
end Go.Proofs.Ytlckhpfokijknae
