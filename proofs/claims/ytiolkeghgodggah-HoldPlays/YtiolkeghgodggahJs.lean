/-
  What an order leaves alone; refused orders.
-/
import Derived.Test.YtiolkeghgodggahJr
import Derived.Deep.QuietTactic
import Derived.BigQuiet
import Derived.RegionTactic
namespace Go.Proofs.Ytiolkeghgodggah.Hd
open Go.RowKit Go.Shelf

/-- What was there is there as it was, but for the blocks of which P holds. -/
structure Only (w w' : World) (P : Nat → Prop) : Prop where
  os : w'.os = w.os
  tape : w'.tape = w.tape
  output : w'.output = w.output
  size : w.heap.size ≤ w'.heap.size
  block : ∀ k, k < w.heap.size → ¬ P k → w'.heap[k]? = w.heap[k]?
/-- The blocks of a rack. -/
def Mine (R : Nat) (vc vl : Value) (k : Nat) : Prop := k = R ∨ vc.ownBlock = some k ∨ vl.ownBlock = some k
namespace Only
variable {w w' w'' : World} {P : Nat → Prop}
theorem of_below (h : Below w.heap.size w w') : Only w w' P := ⟨h.os, h.tape, h.output, h.size, fun k hk _ => h.block k hk⟩
theorem trans (h : Only w w' P) (g : Only w' w'' P) : Only w w'' P :=
  ⟨g.os.trans h.os, g.tape.trans h.tape, g.output.trans h.output, Nat.le_trans h.size g.size, fun k hk hp => (g.block k (Nat.lt_of_lt_of_le hk h.size) hp).trans (h.block k hk hp)⟩
theorem set (h : Only w w' P) {a : Addr} (ha : P a.block) (v : Value) : Only w (w'.setCell a v) P :=
  ⟨h.os, h.tape, h.output, by simpa using h.size, fun k hk hp => (Below.heap_setCell w' a v k (fun e => hp (e ▸ ha))).trans (h.block k hk hp)⟩
theorem drewN (h : Only w w' P) (q : Nat) : Only w (w'.drewN q) P := ⟨h.os, h.tape, h.output, h.size, h.block⟩
theorem alloc (h : Only w w' P) (o : Obj) : Only w (w'.alloc o) P := h.trans (of_below ((Below.refl _ _).alloc (Nat.le_refl _) o))
theorem below {B : Nat} (h : Only w w' P) (hB : B ≤ w.heap.size) (hp : ∀ k, P k → B ≤ k) : Below B w w' :=
  ⟨h.os, h.tape, h.output, h.size, fun k hk => h.block k (by omega) (fun x => by have := hp k x; omega)⟩
end Only
theorem RkI.mine {B : Nat} {w : World} {R : Nat} {vc vl : Value} {r : Plain.Rk} (h : RkI B w R vc vl r) : ∀ k, Mine R vc vl k → B ≤ k := fun k hk => by
  rcases hk with rfl | e | e
  · exact h.ge
  · exact (h.oc.lt k e).1
  · exact (h.ol.lt k e).1

/-- An order in a box. -/
abbrev boxO (o : Plain.Or) : Obj := .cells #[.int .i64 o.kind, .int .i64 o.count, .int .i64 o.life, .int .i64 o.id] 44
theorem boxO_cells (w : World) (o : Plain.Or) : CellO (w.alloc (boxO o)) w.heap.size 0 o :=
  ⟨by rw [World.cell?_alloc_at _ _ _ _ rfl]; rfl, by rw [World.cell?_alloc_at _ _ _ _ rfl]; rfl, by rw [World.cell?_alloc_at _ _ _ _ rfl]; rfl, by rw [World.cell?_alloc_at _ _ _ _ rfl]; rfl⟩
/-- What an order comes to. -/
def OrdPost (B R : Nat) (vc vl : Value) (r : Plain.Rk) (o : Plain.Or) (w : World) (e : Ending) (w' : World) : Prop :=
  e = .returned (.tuple #[.int .i64 (Plain.ordI r o), .int .i64 (Plain.ordE r o : Nat)]) ∧ (∃ vc' vl', RkI B w' R vc' vl' (Plain.stepR r o)) ∧ Only w w' (Mine R vc vl)
theorem ordPost_no {B R : Nat} {vc vl : Value} {r : Plain.Rk} {o : Plain.Or} {w w' : World} {E : Nat} (hE : Plain.ordE r o = E) (h0 : E ≠ 0) (h : RkI B w R vc vl r) (g : Below w.heap.size w w') :
    OrdPost B R vc vl r o w (.returned (.tuple #[.int .i64 0, .int .i64 (E : Nat)])) w' := by
  have e1 : Plain.ordI r o = 0 := by unfold Plain.ordI; rw [if_neg (fun x => h0 (hE ▸ x.1))]
  refine ⟨by rw [e1, hE], ⟨vc, vl, ?_⟩, Only.of_below g⟩
  rw [Plain.stepR_no (by rw [hE]; exact h0)]
  exact h.grow g
theorem ordPost_yes {B R : Nat} {vc vl vc' vl' : Value} {r r' : Plain.Rk} {o : Plain.Or} {w w' : World} {I : Int} (hE : Plain.ordE r o = 0) (hI : Plain.ordI r o = I) (hr : Plain.ordR r o = r') (h : RkI B w' R vc' vl' r') (g : Only w w' (Mine R vc vl)) :
    OrdPost B R vc vl r o w (.returned (.tuple #[.int .i64 I, .int .i64 0])) w' := by
  refine ⟨by rw [hE, hI]; rfl, ⟨vc', vl', ?_⟩, g⟩
  unfold Plain.stepR
  rw [if_pos hE, hr]
  exact h

set_option maxHeartbeats 2000000 in
set_option maxRecDepth 100000 in
theorem ord_kind (B R : Nat) (vc vl : Value) (r : Plain.Rk) (k c l i : Int) (hk : k < 1 ∨ 7 < k) (w : World) (h : RkI B w R vc vl r) :
    Calls Try.prog 30 #[.pointer (some ⟨R, 0, none⟩), aggO ⟨k, c, l, i⟩] w fun e w' => OrdPost B R vc vl r ⟨k, c, l, i⟩ w e w' := by
  have hE : Plain.ordE r ⟨k, c, l, i⟩ = 3 := by unfold Plain.ordE; rw [if_pos hk]
  have P := hid (fun w' g => ordPost_no (w := w) (w' := w') hE (by decide) h g)
  have b1 : (k == 1) = false := by rw [beq_eq_false_iff_ne]; omega
  have b2 : (k == 2) = false := by rw [beq_eq_false_iff_ne]; omega
  have b3 : (k == 3) = false := by rw [beq_eq_false_iff_ne]; omega
  have b6 : (k == 6) = false := by rw [beq_eq_false_iff_ne]; omega
  clear h hE
  by_cases hk1 : k < 1
  · go_enter Try.func30, Try.ntmps30
    go_wp2
    go_ret2
    exact P.out _ ((Below.refl _ _).alloc (Nat.le_refl _) _)
  · have hk7 : 7 < k := by omega
    go_enter Try.func30, Try.ntmps30
    go_wp2
    go_ret2
    exact P.out _ ((Below.refl _ _).alloc (Nat.le_refl _) _)

set_option maxHeartbeats 2000000 in
set_option maxRecDepth 100000 in
theorem ord_count (B R : Nat) (vc vl : Value) (r : Plain.Rk) (k c l i : Int) (hk : k = 1 ∨ k = 2 ∨ k = 3 ∨ k = 6) (hc : c < 1 ∨ 1048576 < c) (w : World) (h : RkI B w R vc vl r) :
    Calls Try.prog 30 #[.pointer (some ⟨R, 0, none⟩), aggO ⟨k, c, l, i⟩] w fun e w' => OrdPost B R vc vl r ⟨k, c, l, i⟩ w e w' := by
  have hE : Plain.ordE r ⟨k, c, l, i⟩ = 2 := by
    unfold Plain.ordE
    dsimp only
    rw [if_neg (by omega), if_pos ⟨by unfold Plain.counted; rw [decide_eq_true_iff]; exact hk, hc⟩]
  have P := hid (fun w' g => ordPost_no (w := w) (w' := w') hE (by decide) h g)
  clear h hE
  by_cases hc1 : c < 1
  · rcases hk with rfl | rfl | rfl | rfl
    all_goals
      go_enter Try.func30, Try.ntmps30
      go_wp2
      go_ret2
      exact P.out _ ((Below.refl _ _).alloc (Nat.le_refl _) _)
  · have hc2 : 1048576 < c := by omega
    rcases hk with rfl | rfl | rfl | rfl
    all_goals
      go_enter Try.func30, Try.ntmps30
      go_wp2
      go_ret2
      exact P.out _ ((Below.refl _ _).alloc (Nat.le_refl _) _)
end Go.Proofs.Ytiolkeghgodggah.Hd
