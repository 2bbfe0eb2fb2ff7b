/-
  The document's Learn.
-/
import Derived.Test.YtiolkeghgodggakRs2
namespace Go.Proofs.Ytiolkeghgodggak
open Go.RowKit Go.Shelf Go.Sort

theorem ShI.nes {B S HO IO : Nat} {hb ib : Nat → Nat} {w0 w : World} {lp : Option Addr} {lc n m hc ic : Nat} {f : Plain.Shv} (I : ShI B S HO IO hb ib w0 w lp lc n m hc ic f) {i : Nat} (hi : i < n) : ¬ hb i = S ∧ ¬ hb i = HO ∧ ¬ hb i = IO ∧ ¬ hb i = ib i := by
  obtain ⟨F, r, _⟩ := I.hr i hi
  obtain ⟨M, g, r1, _⟩ := I.ho
  obtain ⟨M', g', r2, _⟩ := I.io
  obtain ⟨G, r3, _⟩ := I.ir i hi
  exact ⟨rows_ne r I.bx (by decide), rows_ne r r1 (by decide), rows_ne r r2 (by decide), rows_ne r r3 (by decide)⟩
/-- What is learnt, in memory. -/
def LeP (B S HO IO : Nat) (hb ib : Nat → Nat) (w0 : World) (lp : Option Addr) (lc n m hc ic : Nat) (g : Plain.Shv) (w : World) (e : Ending) (w' : World) : Prop :=
  e = .returned (.tuple #[]) ∧ ShI B S HO IO hb ib w0 w' lp lc n m hc ic g ∧ Un (isS hb ib n) w w'

theorem LeP.drew {B S HO IO : Nat} {hb ib : Nat → Nat} {w0 : World} {lp : Option Addr} {lc n m hc ic : Nat} {g : Plain.Shv} {w : World} {e : Ending} {w' : World} (h : LeP B S HO IO hb ib w0 lp lc n m hc ic g w e w') (hB : B ≤ w'.heap.size) : LeP B S HO IO hb ib w0 lp lc n m hc ic g w e w'.drew :=
  ⟨h.1, h.2.1.grow hB ((Below.refl _ _).drew), h.2.2.trans (Un.of_below ((Below.refl _ _).drew))⟩

set_option maxHeartbeats 4000000 in
set_option maxRecDepth 100000 in
theorem learn_c (B S HO IO : Nat) (hb ib : Nat → Nat) (w0 : World) (lp : Option Addr) (lc n m hc ic : Nat) (f : Plain.Shv) (i j k : Nat) (v t o : Int) (gn : Bool) (hi : i < n) (hj : j < m) (hk : k < 8) (w : World) (hB : B ≤ w.heap.size) (I : ShI B S HO IO hb ib w0 w lp lc n m hc ic f) :
    Calls Try.prog 42 #[.pointer (some ⟨S, 0, none⟩), .int .i64 (i : Int), .int .i64 (j : Int), aggE ⟨(k : Int), v, t, o, gn⟩] w fun e w' => LeP B S HO IO hb ib w0 lp lc n m hc ic (f.learn i j ⟨(k : Int), v, t, o, gn⟩) w e w' := by
  have hiz : (i : Int) < (n : Int) := by omega
  have hjz : (j : Int) < (m : Int) := by omega
  have hkz : (k : Int) < 8 := by omega
  obtain ⟨W, hW⟩ : ∃ W, W = w.alloc (boxE ⟨(k : Int), v, t, o, gn⟩) := ⟨_, rfl⟩
  have bA : Below w.heap.size w W := by rw [hW]; exact (Below.refl _ _).alloc (Nat.le_refl _) _
  have BX := hid (show CellN W w.heap.size 0 ⟨(k : Int), v, t, o, gn⟩ by rw [hW]; exact box_at w _)
  have HI := hid (I.grow hB bA)
  have HBA := hid bA
  have hBW : B ≤ W.heap.size := Nat.le_trans hB bA.size
  -- behind the question: what is laid in its place
  have HEND := hid (fun (V : World) (b : Below W.heap.size W V) (g : f.learn i j ⟨(k : Int), v, t, o, gn⟩ = f.upd i j k ⟨(k : Int), v, t, o, gn⟩) => show LeP B S HO IO hb ib w0 lp lc n m hc ic (f.learn i j ⟨(k : Int), v, t, o, gn⟩) w (.returned (.tuple #[])) ((setE V (hb i) (j * 40 + k * 5) ⟨(k : Int), v, t, o, gn⟩).setCell ⟨ib i, j * 8 + k, none⟩ (.bool true)) from
    ⟨rfl, by rw [g]; exact (HI.out.grow hBW b).put hi hj hk _, (Un.of_below (HBA.out.trans (b.mono HBA.out.size))).trans (put_un hi V _ _ _ _)⟩)
  have HLE := hid (show f.learn i j ⟨(k : Int), v, t, o, gn⟩ = match f i j k with | none => f.upd i j k ⟨(k : Int), v, t, o, gn⟩ | some x => if Plain.newer ⟨(k : Int), v, t, o, gn⟩ x = true then f.upd i j k ⟨(k : Int), v, t, o, gn⟩ else f from by
    unfold Plain.Shv.learn
    dsimp only
    rw [Int.toNat_natCast]
    cases f i j k <;> rfl)
  obtain ⟨x1, x2, xh, xi⟩ : W.cell? ⟨S, 1, none⟩ = some (.slice (some ⟨HO, 0, none⟩) n hc) ∧ W.cell? ⟨S, 2, none⟩ = some (.slice (some ⟨IO, 0, none⟩) n ic) ∧ W.cell? ⟨HO, i, none⟩ = some (.slice (some ⟨hb i, 0, none⟩) m m) ∧ W.cell? ⟨IO, i, none⟩ = some (.slice (some ⟨ib i, 0, none⟩) m m) := ⟨HI.out.cell1, HI.out.cell2, HI.out.cellH hi, HI.out.cellI hi⟩
  obtain ⟨b0, b1, b2, b3, b4⟩ := BX.out
  simp only [Nat.zero_add] at b1 b2 b3 b4
  dsimp only at b0 b1 b2 b3 b4
  have c0 := (HI.out.isAt hi hj hk).1
  obtain ⟨eb, heb⟩ : ∃ eb, eb = w.heap.size := ⟨_, rfl⟩
  have HEBH := hid heb.symm
  have HNIB := hid (show ¬ ib i = S ∧ ¬ ib i = IO ∧ ¬ ib i = eb by
    obtain ⟨G, r, _⟩ := I.ir i hi
    obtain ⟨M, g, r', _⟩ := I.io
    have := r.lt
    exact ⟨rows_ne r I.bx (by decide), rows_ne r r' (by decide), by rw [heb]; omega⟩)
  have HNEB := hid (show ¬ hb i = eb by rw [heb]; obtain ⟨F, r, _⟩ := I.hr i hi; have := r.lt; omega)
  cases hf : f i j k with
  | none =>
    rw [hf] at c0
    have c0' : W.cell? ⟨ib i, j * 8 + k, none⟩ = some (.bool false) := c0
    have HG := hid (show f.learn i j ⟨(k : Int), v, t, o, gn⟩ = f.upd i j k ⟨(k : Int), v, t, o, gn⟩ by rw [HLE.out, hf])
    clear c0 hf HLE I
    go_enter Try.func42, Try.ntmps42
    go_wp2
    rw [← hW]
    rw [← heb] at b0 b1 b2 b3 b4 ⊢
    clear hW heb
    go_quiet (fail)
    obtain ⟨V, hV⟩ : ∃ V, V = W.drewN nq := ⟨_, rfl⟩
    rw [← hV]
    have bV := hid (show Below W.heap.size W V by rw [hV]; exact below_drewN (Below.refl _ _) _)
    clear hV x1 x2 xh xi c0' b0 b1 b2 b3 b4
    have IV := hid (HI.out.grow hBW bV.out)
    have BV := hid (BX.out.below bV.out BX.out.lt)
    rw [HEBH.out] at BV
    obtain ⟨b0, b1, b2, b3, b4⟩ := BV.out
    simp only [Nat.zero_add] at b1 b2 b3 b4
    dsimp only at b0 b1 b2 b3 b4
    have x1 := IV.out.cell1
    have xh := IV.out.cellH hi
    obtain ⟨a0, g0, z0⟩ := IV.out.some hi (x := j * 40 + k * 5) (by omega)
    obtain ⟨a1, g1, z1⟩ := IV.out.some hi (x := j * 40 + k * 5 + 1) (by omega)
    obtain ⟨a2, g2, z2⟩ := IV.out.some hi (x := j * 40 + k * 5 + 2) (by omega)
    obtain ⟨a3, g3, z3⟩ := IV.out.some hi (x := j * 40 + k * 5 + 3) (by omega)
    obtain ⟨a4, g4, z4⟩ := IV.out.some hi (x := j * 40 + k * 5 + 4) (by omega)
    obtain ⟨n1, n2, n3, n4⟩ := IV.out.nes hi
    have n5 : ¬ hb i = eb := HNEB.out
    obtain ⟨n6, n7, n8⟩ : ¬ ib i = S ∧ ¬ ib i = IO ∧ ¬ ib i = eb := HNIB.out
    have HX := hid (HEND.out V bV.out HG.out)
    go_wp2
    go_region_held3 (fun w' => w'.cell? ⟨S, 1, none⟩ = some (.slice (some ⟨HO, 0, none⟩) n hc) ∧ w'.cell? ⟨HO, i, none⟩ = some (.slice (some ⟨hb i, 0, none⟩) m m) ∧ w'.cell? ⟨eb, 0, none⟩ = some (.int .i64 (k : Int)) ∧ w'.cell? ⟨eb, 1, none⟩ = some (.int .i64 v) ∧ w'.cell? ⟨eb, 2, none⟩ = some (.int .i64 t) ∧ w'.cell? ⟨eb, 3, none⟩ = some (.int .i64 o) ∧ w'.cell? ⟨eb, 4, none⟩ = some (.bool gn)) (go_keep) (fail)
    obtain ⟨V1, hV1⟩ : ∃ V1, V1 = setE V (hb i) (j * 40 + k * 5) ⟨(k : Int), v, t, o, gn⟩ := ⟨_, rfl⟩
    have m2 : V1.cell? ⟨S, 2, none⟩ = some (.slice (some ⟨IO, 0, none⟩) n ic) := by rw [hV1, setE_cell _ n1]; exact IV.out.cell2
    have mi : V1.cell? ⟨IO, i, none⟩ = some (.slice (some ⟨ib i, 0, none⟩) m m) := by rw [hV1, setE_cell _ n3]; exact IV.out.cellI hi
    have mA : V1.cell? ⟨ib i, j * 8 + k, none⟩ = some (.bool (f i j k).isSome) := by rw [hV1, setE_cell _ n4]; exact (IV.out.isAt hi hj hk).1
    have mZ : V1.frozen? ⟨ib i, j * 8 + k, none⟩ = false := by rw [hV1, setE_frozen _ n4]; exact (IV.out.isAt hi hj hk).2
    have mk : V1.cell? ⟨eb, 0, none⟩ = some (.int .i64 (k : Int)) := by rw [hV1, setE_cell _ n5]; exact b0
    rw [← hV1] at HX
    have hBV : B ≤ V1.heap.size := by have e : V1.heap.size = V.heap.size := (by rw [hV1]; simp [setE]); rw [e]; exact Nat.le_trans hBW bV.out.size
    have hsb : B ≤ (V1.setCell ⟨ib i, j * 8 + k, none⟩ (.bool true)).heap.size := by have e : (V1.setCell ⟨ib i, j * 8 + k, none⟩ (.bool true)).heap.size = V1.heap.size := (by simp); rw [e]; exact hBV
    have HX2 := hid ((HX.out.drew hsb).drew hsb)
    unfold setE at hV1
    dsimp only at hV1
    rw [← hV1]
    generalize (f i j k).isSome = bs at mA
    clear hV1 x1 xh b0 b1 b2 b3 b4 g0 g1 g2 g3 g4 z0 z1 z2 z3 z4 HEND HX IV
    go_wp2
    go_region_held3 (fun w' => w'.cell? ⟨S, 2, none⟩ = some (.slice (some ⟨IO, 0, none⟩) n ic) ∧ w'.cell? ⟨IO, i, none⟩ = some (.slice (some ⟨ib i, 0, none⟩) m m) ∧ w'.cell? ⟨eb, 0, none⟩ = some (.int .i64 (k : Int))) (go_keep) (fail)
    go_end0
    exact HX2.out
  | some x =>
    rw [hf] at c0
    have c0' : W.cell? ⟨ib i, j * 8 + k, none⟩ = some (.bool true) := c0
    have cx := HI.out.enAt hi hj hk hf
    have KA := fun X => rnewer_g ⟨(k : Int), v, t, o, gn⟩ x X
    have HL2 := hid (show f.learn i j ⟨(k : Int), v, t, o, gn⟩ = if Plain.newer ⟨(k : Int), v, t, o, gn⟩ x = true then f.upd i j k ⟨(k : Int), v, t, o, gn⟩ else f by rw [HLE.out, hf])
    clear c0 hf HLE I
    generalize Plain.newer ⟨(k : Int), v, t, o, gn⟩ x = r at KA HL2
    obtain ⟨xk, xv, xt, xo, xg⟩ := x
    have mixed : Try.prog.follows .mixedOrders = true := by kernel_rfl
    have lS : S < W.heap.size := HI.out.bx.lt
    have p0 := fun n os => (BX.out.grown n os).c0
    have p1 := fun n os => (BX.out.grown n os).c1
    have p2 := fun n os => (BX.out.grown n os).c2
    have p3 := fun n os => (BX.out.grown n os).c3
    have p4 := fun n os => (BX.out.grown n os).c4
    have q0 := fun n os => (cx.grown n os).c0
    have q1 := fun n os => (cx.grown n os).c1
    have q2 := fun n os => (cx.grown n os).c2
    have q3 := fun n os => (cx.grown n os).c3
    have q4 := fun n os => (cx.grown n os).c4
    have y1 := fun n os => cell_grown lS x1 n os
    have y2 := fun n os => cell_grown lS x2 n os
    have y3 := fun n os => cell_grown (World.block_lt_of_cell? (w := W) (h := xh)) xh n os
    have y4 := fun n os => cell_grown (World.block_lt_of_cell? (w := W) (h := xi)) xi n os
    have y5 := fun n os => cell_grown (World.block_lt_of_cell? (w := W) (h := c0')) c0' n os
    simp only [Nat.zero_add] at p1 p2 p3 p4
    dsimp only at p0 p1 p2 p3 p4 q0 q1 q2 q3 q4
    go_enter Try.func42, Try.ntmps42
    go_wp2
    rw [← hW]
    rw [← heb] at b0 b1 b2 b3 b4 p0 p1 p2 p3 p4 ⊢
    clear hW heb
    go_quiet_grown (first | (go_at_call 53; exact Calls.grown_of (KA _)) | fail)
    obtain ⟨V, hV⟩ : ∃ V, V = grow (W.drewN nq) osq := ⟨_, rfl⟩
    rw [← hV]
    have bV := hid (show Below W.heap.size W V by rw [hV]; exact below_grow (Below.refl _ _) (Nat.le_refl _) nq osq)
    clear hV x1 x2 xh xi c0' b0 b1 b2 b3 b4 p0 p1 p2 p3 p4 q0 q1 q2 q3 q4 y1 y2 y3 y4 y5 KA cx
    cases r with
    | false =>
      have FN := hid (show LeP B S HO IO hb ib w0 lp lc n m hc ic (f.learn i j ⟨(k : Int), v, t, o, gn⟩) w (.returned (.tuple #[])) V from ⟨rfl, by rw [HL2.out, if_neg (by decide)]; exact HI.out.grow hBW bV.out, Un.of_below (HBA.out.trans (bV.out.mono HBA.out.size))⟩)
      go_wp2
      go_end0
      exact FN.out
    | true =>
      have HG := hid (show f.learn i j ⟨(k : Int), v, t, o, gn⟩ = f.upd i j k ⟨(k : Int), v, t, o, gn⟩ by rw [HL2.out, if_pos rfl])
      have IV := hid (HI.out.grow hBW bV.out)
      have BV := hid (BX.out.below bV.out BX.out.lt)
      rw [HEBH.out] at BV
      obtain ⟨b0, b1, b2, b3, b4⟩ := BV.out
      simp only [Nat.zero_add] at b1 b2 b3 b4
      dsimp only at b0 b1 b2 b3 b4
      have x1 := IV.out.cell1
      have xh := IV.out.cellH hi
      obtain ⟨a0, g0, z0⟩ := IV.out.some hi (x := j * 40 + k * 5) (by omega)
      obtain ⟨a1, g1, z1⟩ := IV.out.some hi (x := j * 40 + k * 5 + 1) (by omega)
      obtain ⟨a2, g2, z2⟩ := IV.out.some hi (x := j * 40 + k * 5 + 2) (by omega)
      obtain ⟨a3, g3, z3⟩ := IV.out.some hi (x := j * 40 + k * 5 + 3) (by omega)
      obtain ⟨a4, g4, z4⟩ := IV.out.some hi (x := j * 40 + k * 5 + 4) (by omega)
      obtain ⟨n1, n2, n3, n4⟩ := IV.out.nes hi
      have n5 : ¬ hb i = eb := HNEB.out
      obtain ⟨n6, n7, n8⟩ : ¬ ib i = S ∧ ¬ ib i = IO ∧ ¬ ib i = eb := HNIB.out
      have HX := hid (HEND.out V bV.out HG.out)
      go_wp2
      go_region_held3 (fun w' => w'.cell? ⟨S, 1, none⟩ = some (.slice (some ⟨HO, 0, none⟩) n hc) ∧ w'.cell? ⟨HO, i, none⟩ = some (.slice (some ⟨hb i, 0, none⟩) m m) ∧ w'.cell? ⟨eb, 0, none⟩ = some (.int .i64 (k : Int)) ∧ w'.cell? ⟨eb, 1, none⟩ = some (.int .i64 v) ∧ w'.cell? ⟨eb, 2, none⟩ = some (.int .i64 t) ∧ w'.cell? ⟨eb, 3, none⟩ = some (.int .i64 o) ∧ w'.cell? ⟨eb, 4, none⟩ = some (.bool gn)) (go_keep) (fail)
      obtain ⟨V1, hV1⟩ : ∃ V1, V1 = setE V (hb i) (j * 40 + k * 5) ⟨(k : Int), v, t, o, gn⟩ := ⟨_, rfl⟩
      have m2 : V1.cell? ⟨S, 2, none⟩ = some (.slice (some ⟨IO, 0, none⟩) n ic) := by rw [hV1, setE_cell _ n1]; exact IV.out.cell2
      have mi : V1.cell? ⟨IO, i, none⟩ = some (.slice (some ⟨ib i, 0, none⟩) m m) := by rw [hV1, setE_cell _ n3]; exact IV.out.cellI hi
      have mA : V1.cell? ⟨ib i, j * 8 + k, none⟩ = some (.bool (f i j k).isSome) := by rw [hV1, setE_cell _ n4]; exact (IV.out.isAt hi hj hk).1
      have mZ : V1.frozen? ⟨ib i, j * 8 + k, none⟩ = false := by rw [hV1, setE_frozen _ n4]; exact (IV.out.isAt hi hj hk).2
      have mk : V1.cell? ⟨eb, 0, none⟩ = some (.int .i64 (k : Int)) := by rw [hV1, setE_cell _ n5]; exact b0
      rw [← hV1] at HX
      have hBV : B ≤ V1.heap.size := by have e : V1.heap.size = V.heap.size := (by rw [hV1]; simp [setE]); rw [e]; exact Nat.le_trans hBW bV.out.size
      have hsb : B ≤ (V1.setCell ⟨ib i, j * 8 + k, none⟩ (.bool true)).heap.size := by have e : (V1.setCell ⟨ib i, j * 8 + k, none⟩ (.bool true)).heap.size = V1.heap.size := (by simp); rw [e]; exact hBV
      have HX2 := hid ((HX.out.drew hsb).drew hsb)
      unfold setE at hV1
      dsimp only at hV1
      rw [← hV1]
      generalize (f i j k).isSome = bs at mA
      clear hV1 x1 xh b0 b1 b2 b3 b4 g0 g1 g2 g3 g4 z0 z1 z2 z3 z4 HEND HX IV
      go_wp2
      go_region_held3 (fun w' => w'.cell? ⟨S, 2, none⟩ = some (.slice (some ⟨IO, 0, none⟩) n ic) ∧ w'.cell? ⟨IO, i, none⟩ = some (.slice (some ⟨ib i, 0, none⟩) m m) ∧ w'.cell? ⟨eb, 0, none⟩ = some (.int .i64 (k : Int))) (go_keep) (fail)
      go_end0
      exact HX2.out
end Go.Proofs.Ytiolkeghgodggak
