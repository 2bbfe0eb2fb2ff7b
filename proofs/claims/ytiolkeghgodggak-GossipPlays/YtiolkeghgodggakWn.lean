/-
  A struct within a block of more cells: a window; append onto a row: which block it lies in then.
-/
import Derived.Test.YtiolkeghgodggakGx
import Derived.Deep.OwnRows
namespace Go.Proofs.Ytiolkeghgodggak
open Go.RowKit

/-- A block: the type of its elements, how many cells it has, and what stands outside of the window. -/
structure Win where
  t : Nat
  n : Nat
  F : Nat → Value
/-- All of the block: k cells from o on hold g. -/
def Win.f (X : Win) (o k : Nat) (g : Nat → Value) (j : Nat) : Value := if o ≤ j ∧ j < o + k then g (j - o) else X.F j
theorem Win.f_in {X : Win} {o k i : Nat} {g : Nat → Value} (hi : i < k) : X.f o k g (o + i) = g i := by
  unfold Win.f
  rw [if_pos ⟨Nat.le_add_right _ _, by omega⟩, Nat.add_sub_cancel_left]
theorem Win.f_out {X : Win} {o k j : Nat} {g : Nat → Value} (h : j < o ∨ o + k ≤ j) : X.f o k g j = X.F j := by
  unfold Win.f
  rw [if_neg (by omega)]
theorem Win.cell {X : Win} {w : World} {R o k : Nat} {g : Nat → Value} (h : w.rowIs R X.t X.n (X.f o k g)) (le : o + k ≤ X.n) {i : Nat} (hi : i < k) : w.cell? ⟨R, o + i, none⟩ = some (g i) := by
  have := h.cell (i := o + i) (by omega)
  rw [Win.f_in hi] at this
  exact this
theorem Win.set {X : Win} {w : World} {R o k : Nat} {g : Nat → Value} (h : w.rowIs R X.t X.n (X.f o k g)) (i : Nat) (hi : i < k) (v : Value) {g' : Nat → Value} (hg : ∀ j, j < k → g' j = if j = i then v else g j) :
    (w.setCell ⟨R, o + i, none⟩ v).rowIs R X.t X.n (X.f o k g') := by
  refine (h.set (o + i) v).congr fun j _ => ?_
  by_cases hin : o ≤ j ∧ j < o + k
  · have e : X.f o k g' j = g' (j - o) := by unfold Win.f; rw [if_pos hin]
    have e2 : X.f o k g j = g (j - o) := by unfold Win.f; rw [if_pos hin]
    rw [e, e2, hg _ (by omega)]
    by_cases h1 : j = o + i
    · rw [if_pos h1, if_pos (by omega)]
    · rw [if_neg h1, if_neg (by omega)]
  · rw [if_neg (by omega), Win.f_out (by omega), Win.f_out (by omega)]
/-- A block that is nothing but the window. -/
def Win.all (t n : Nat) : Win := ⟨t, n, fun _ => .int .i64 0⟩
theorem Win.of_all {w : World} {R t n : Nat} {g : Nat → Value} (h : w.rowIs R t n g) : w.rowIs R (Win.all t n).t (Win.all t n).n ((Win.all t n).f 0 n g) :=
  h.congr fun j hj => by unfold Win.f; rw [if_pos (by omega)]; rfl
theorem Win.to_all {w : World} {R t n : Nat} {g : Nat → Value} (h : w.rowIs R (Win.all t n).t (Win.all t n).n ((Win.all t n).f 0 n g)) : w.rowIs R t n g :=
  World.rowIs.congr (show w.rowIs R t n ((Win.all t n).f 0 n g) from h) fun j hj => by unfold Win.f; rw [if_pos (by omega)]; rfl
/-- A row lies in a block that it lay in, or in a new one. -/
theorem app_block {w : World} {B t ty e n m c size bytes : Nat} {i : TypeInfo} {z v v' : Value} {xs news : List Value} {a : Addr} {w' : World} (ht : Try.prog.underlying t = some (.slice e)) (hi : Try.prog.info? e = some i) (hz : i.zero = some z)
    (hsize : i.size = size) (hby : i.bytes = bytes) (hsz : 0 < size)
    (hown : w.ownsRow B e size v n xs) (hl : news.length = m * size) (hnews : ∀ j u, news[j]? = some u → w.cell? (a.add j) = some u) (h1 : ∀ u ∈ news, u.oneCell' = true)
    (h63 : n + m ≤ maxLen) (hbytes : (n + m) * bytes ≤ 140737488355328) (hr : (Builtin.append_ #[t, t] ty #[v, .slice (some a) m c]).run Try.prog w = .ok v' w') :
    ∀ g, v'.ownBlock = some g → v.ownBlock = some g ∨ g = w.heap.size := by
  subst hsize
  subst hby
  intro g hg
  have hsmall : n + m ≤ 9223372036854775807 := by simp only [maxLen] at h63; omega
  rcases hown.2 with ⟨rfl, rfl⟩ | ⟨g0, cap, cur, rfl, hbg, hgg, hnc, hcm, hcs, htake⟩
  · have hx : xs = [] := List.eq_nil_of_length_eq_zero (by simpa using hown.1)
    subst hx
    by_cases hm : m = 0
    · subst hm
      have hn : news = [] := List.eq_nil_of_length_eq_zero (by simpa using hl)
      subst hn
      have : (Builtin.append_ #[t, t] ty #[Value.slice none 0 0, .slice (some a) 0 c]).run Try.prog w = .ok (.slice none 0 0) w := by
        simp [Builtin.append_, run_underlying ht, sizeOf, typeInfo, hi, Builtin.lenOf, Builtin.firstCells, loadCells, loadCellsFrom]
      rw [this] at hr
      injection hr with e1 e2
      subst e1
      simp [Value.ownBlock] at hg
    · have hr2 := run_append_nil (P := Try.prog) w t ty e i z ht hi hz a m c news hl hnews (by omega) (by omega) (by have hb := hbytes; simp only [Nat.zero_add] at hb; omega)
      rw [hr2] at hr
      injection hr with e1 e2
      subst e1
      simp only [Value.ownBlock, Option.some.injEq] at hg
      exact .inr hg.symm
  · by_cases hroom : n + m ≤ cap
    · have hfit : n * i.size + news.length ≤ cur.size := by rw [hl, hcs, ← Nat.add_mul]; exact Nat.mul_le_mul_right _ hroom
      have hr2 := run_append_room (P := Try.prog) w t ty e i ht hi g0 n cap cur hgg a m c news hl hnews h1 hroom hfit
      rw [hr2] at hr
      injection hr with e1 e2
      subst e1
      exact .inl hg
    · have holds : ∀ j u, xs[j]? = some u → w.cell? ((⟨g0, 0, none⟩ : Addr).add j) = some u := hown.cells (g := g0) rfl
      have hr2 := run_append_grow (P := Try.prog) w t ty e i z ht hi hz ⟨g0, 0, none⟩ n cap xs hown.1 holds a m c news hl hnews (by omega) (by omega) (growslice_fits (by omega) hbytes)
      rw [hr2] at hr
      injection hr with e1 e2
      subst e1
      simp only [Value.ownBlock, Option.some.injEq] at hg
      exact .inr hg.symm
/-- What was there is there as it was, but for block R and those of which ZZ holds. -/
structure Kp (ZZ : Nat → Prop) (R : Nat) (w w' : World) : Prop where
  os : w'.os = w.os
  tape : w'.tape = w.tape
  output : w'.output = w.output
  size : w.heap.size ≤ w'.heap.size
  block : ∀ k, k < w.heap.size → k ≠ R → ¬ ZZ k → w'.heap[k]? = w.heap[k]?
namespace Kp
variable {ZZ : Nat → Prop} {R : Nat} {w w' w'' : World}
theorem of_below (h : Below w.heap.size w w') : Kp ZZ R w w' := ⟨h.os, h.tape, h.output, h.size, fun k hk _ _ => h.block k hk⟩
theorem refl (ZZ : Nat → Prop) (R : Nat) (w : World) : Kp ZZ R w w := of_below (Below.refl _ _)
theorem trans (h : Kp ZZ R w w') (g : Kp ZZ R w' w'') : Kp ZZ R w w'' :=
  ⟨g.os.trans h.os, g.tape.trans h.tape, g.output.trans h.output, Nat.le_trans h.size g.size, fun k hk hne hp =>
    (g.block k (Nat.lt_of_lt_of_le hk h.size) hne hp).trans (h.block k hk hne hp)⟩
/-- What is left alone behind both, where what is turned then is new or was let be turned. -/
theorem and_then {Z2 : Nat → Prop} (h : Kp ZZ R w w') (g : Kp Z2 R w' w'') (hz : ∀ k, Z2 k → ZZ k ∨ w.heap.size ≤ k) : Kp ZZ R w w'' :=
  ⟨g.os.trans h.os, g.tape.trans h.tape, g.output.trans h.output, Nat.le_trans h.size g.size, fun k hk hne hp =>
    (g.block k (Nat.lt_of_lt_of_le hk h.size) hne (fun x => (hz k x).elim hp (fun y => by omega))).trans (h.block k hk hne hp)⟩
theorem setR (i : Nat) (v : Value) : Kp ZZ R w (w.setCell ⟨R, i, none⟩ v) :=
  ⟨rfl, rfl, rfl, by simp, fun k _ hne _ => Below.heap_setCell w ⟨R, i, none⟩ v k hne⟩
theorem setP {g : Nat} (hz : ZZ g) (i : Nat) (v : Value) : Kp ZZ R w (w.setCell ⟨g, i, none⟩ v) :=
  ⟨rfl, rfl, rfl, by simp, fun k _ _ hp => Below.heap_setCell w ⟨g, i, none⟩ v k (fun e => hp (by have e' : k = g := e; rw [e']; exact hz))⟩
theorem grown {vo : Value} (hz : ∀ g, vo.ownBlock = some g → ZZ g) (g : w.grownBy w' vo.ownBlock) : Kp ZZ R w w' :=
  ⟨g.os, g.tape, g.output, g.size, fun k hk _ hp => g.block k hk (fun e => hp (hz k e.symm))⟩
theorem grown1 {M : Nat} (hz : ZZ M) (g : w.grownBy w' (some M)) : Kp ZZ R w w' :=
  ⟨g.os, g.tape, g.output, g.size, fun k hk _ hp => g.block k hk (fun e => hp (by injection e with e; rw [e]; exact hz))⟩
/-- A row of something else. -/
theorem rowIs (h : Kp ZZ R w w') {b t n : Nat} {f : Nat → Value} (hr : w.rowIs b t n f) (hz : ¬ ZZ b) (hb : b ≠ R) : w'.rowIs b t n f :=
  hr.of_block (h.block b hr.lt hb hz)
theorem mono {Z2 : Nat → Prop} (h : Kp ZZ R w w') (hz : ∀ k, ZZ k → Z2 k) : Kp Z2 R w w' := ⟨h.os, h.tape, h.output, h.size, fun k hk hn hp => h.block k hk hn (fun x => hp (hz k x))⟩
/-- Stores into a block that was not there. -/
theorem only {w0 : World} {G : Nat} (h : Kp ZZ R w0 w) (hG : w0.heap.size ≤ G) (os : w'.os = w.os) (tape : w'.tape = w.tape) (output : w'.output = w.output) (size : w'.heap.size = w.heap.size) (hb : ∀ k, k ≠ G → w'.heap[k]? = w.heap[k]?) : Kp ZZ R w0 w' :=
  ⟨os.trans h.os, tape.trans h.tape, output.trans h.output, by rw [size]; exact h.size, fun k hk hn hp => (hb k (by omega)).trans (h.block k hk hn hp)⟩
end Kp
variable {α : Type} {E : Enc α}
/-- append of what a slice of structs holds: and where it lies then. -/
theorem Enc.appW {w : World} {B n m c t e bytes : Nat} {i : TypeInfo} {z v : Value} {p : Option Addr} {l q : List α} (ht : Try.prog.underlying t = some (.slice e)) (hi : Try.prog.info? e = some i) (hz : i.zero = some z) (hsize : i.size = E.n) (hby : i.bytes = bytes) (hzs : z.cells.size = E.n)
    (hown : w.ownsRow B e E.n v n (E.vals l)) (hq : E.Holds w p q) (hm : q.length = m) (hnil : p = none → c = 0) (h63 : n + m ≤ 1000000) (hbytes : (n + m) * bytes ≤ 140737488355328) (hB : B ≤ w.heap.size) :
    ∃ v' w', (Builtin.append_ #[t, t] t #[v, .slice p m c]).run Try.prog w = .ok v' w' ∧ w'.ownsRow B e E.n v' (n + m) (E.vals (l ++ q)) ∧ w.grownBy w' v.ownBlock ∧ ∀ g, v'.ownBlock = some g → v.ownBlock = some g ∨ g = w.heap.size := by
  obtain ⟨v', w', h1, h2, h3⟩ := Enc.app ht hi hz hsize hby hzs hown hq hm hnil h63 hbytes hB
  refine ⟨v', w', h1, h2, h3, ?_⟩
  cases p with
  | none =>
    have h0 : q = [] := by
      by_cases h : 0 < q.length
      · obtain ⟨_, _, e, _⟩ := hq h; cases e
      · exact List.length_eq_zero_iff.1 (by omega)
    subst h0
    have hc := hnil rfl
    subst hc
    have hm' : m = 0 := by simpa using hm.symm
    subst hm'
    rw [run_append_owned_none (P := Try.prog) (w := w) B t t e i E.n ht hi v n _ hown] at h1
    injection h1 with e1 e2
    subst e1
    exact fun g hg => .inl hg
  | some a =>
    refine app_block ht hi hz hsize hby E.pos hown (news := E.vals q) (by rw [E.vals_len, hm]) (fun j u hu => ?_) (E.vals_cell q) (by unfold maxLen; omega) hbytes h1
    have hpos : 0 < q.length := by
      rcases Nat.eq_zero_or_pos q.length with h | h
      · have : q = [] := List.length_eq_zero_iff.1 h
        subst this
        simp [Enc.vals] at hu
      · exact h
    obtain ⟨b, o, e, _, g⟩ := hq hpos
    have e' := Option.some.inj e
    subst e'
    rw [add_at']
    exact g j u hu
end Go.Proofs.Ytiolkeghgodggak
