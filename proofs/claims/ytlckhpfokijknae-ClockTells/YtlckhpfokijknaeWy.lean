/-
  The ways between events, as they are found row by row, in memory.
-/
import Derived.Test.YtlckhpfokijknaeKt
import Derived.Test.YtlckhpfokijknaeCq
import Derived.Deep.QuietTactic
import Derived.BigQuiet
namespace Go.Proofs.Ytlckhpfokijknae
open Go.RowKit

theorem Try.infoBool : (Try.prog.info? 4).map (fun i => (i.zero, i.size, i.bytes)) = some (some (.bool false), 1, 1) := by kernel_rfl
theorem Try.infoRowB : (Try.prog.info? 30).map (fun i => (i.zero, i.size, i.bytes)) = some (some (.slice none 0 0), 1, 24) := by kernel_rfl

namespace Plain
/-- Is there a way from event i to j, as found? -/
def way (l : List Ev) (n i k j : Nat) : Bool := ((ways l n i).getD k []).getD j false
theorem way_old (l : List Ev) (n i k j : Nat) (h : k < i) : way l n (i + 1) k j = way l n i k j := by
  unfold way; rw [ways, getD_snoc, ways_len, if_pos h]
/-- .. by the first k events. -/
def toK (l : List Ev) (n i k j : Nat) : Bool := (List.range k).any (fun k' => stepB l i k' && (decide (j = k') || (decide (j < k') && way l n i k' j)))
theorem way_last (l : List Ev) (n i j : Nat) (hj : j < n) : way l n (i + 1) i j = toK l n i i j := by
  unfold way; rw [ways, getD_snoc, ways_len, if_neg (by omega), if_pos rfl, getD_map_range _ _ _ _ hj]; rfl
theorem toK_skip {l : List Ev} {n i k : Nat} (h : stepB l i k = false) (j : Nat) : toK l n i (k + 1) j = toK l n i k j := by
  simp [toK, List.range_succ, List.any_append, h]
theorem toK_take {l : List Ev} {n i k : Nat} (h : stepB l i k = true) (j : Nat) : toK l n i (k + 1) j = (toK l n i k j || (decide (j = k) || (decide (j < k) && way l n i k j))) := by
  simp [toK, List.range_succ, List.any_append, h]
theorem toK_self {l : List Ev} {n i k : Nat} (h : stepB l i k = true) : toK l n i (k + 1) k = true := by rw [toK_take h]; simp
theorem toK_less {l : List Ev} {n i k j : Nat} (h : stepB l i k = true) (hj : j < k) : toK l n i (k + 1) j = (toK l n i k j || way l n i k j) := by
  rw [toK_take h]; simp [hj, show j ≠ k by omega]
theorem toK_more {l : List Ev} {n i k j : Nat} (h : stepB l i k = true) (hj : k < j) : toK l n i (k + 1) j = toK l n i k j := by
  rw [toK_take h]; simp [show ¬ j < k by omega, show j ≠ k by omega]
theorem way_on (l : List Ev) (n : Nat) {i k : Nat} (hi : i < n) (hk : k < i) : way l n n i k = on l n n i k := by
  have := ways_on l n n (Nat.le_refl _) i hi k (by omega)
  rw [Bool.eq_iff_iff]
  unfold way
  rw [this]
  constructor
  · rintro ⟨_, h⟩; exact h
  · intro h; exact ⟨hk, h⟩
end Plain

/-- Rows of L each, at the blocks g. -/
def rvals (L : Nat) (g : Nat → Nat) (m : Nat) : List Value := (List.range m).map fun k => .slice (some ⟨g k, 0, none⟩) L L
theorem rvals_snoc (L : Nat) (g : Nat → Nat) (m b : Nat) : rvals L g m ++ [.slice (some ⟨b, 0, none⟩) L L] = rvals L (fun k => if k = m then b else g k) (m + 1) := by
  unfold rvals
  rw [List.range_succ, List.map_append]
  congr 1
  · refine List.map_congr_left fun k hk => ?_
    rw [List.mem_range] at hk
    show _ = Value.slice (some ⟨if k = m then b else g k, 0, none⟩) L L
    rw [if_neg (by omega)]
  · simp
theorem rvals_get {L m k : Nat} (g : Nat → Nat) (h : k < m) : (rvals L g m)[k]? = some (.slice (some ⟨g k, 0, none⟩) L L) := by
  simp [rvals, h]
theorem rvals_cell {w : World} {B e L m k gb c : Nat} {g : Nat → Nat} (h : w.ownsRow B e 1 (.slice (some ⟨gb, 0, none⟩) m c) m (rvals L g m)) (hk : k < m) : w.cell? ⟨gb, k, none⟩ = some (.slice (some ⟨g k, 0, none⟩) L L) := by
  have := h.cells rfl k _ (rvals_get g hk)
  rwa [add_zero_at] at this

/-- The ways of the first m events, in memory. -/
structure WI (es : List Plain.Ev) (N m B : Nat) (w0 w : World) (vw : Value) (g : Nat → Nat) : Prop where
  own : w.ownsRow B 30 1 vw m (rvals N g m)
  rows : ∀ k, k < m → w.rowIs (g k) 4 N (fun j => .bool (Plain.way es N m k j))
  bel : Below w0.heap.size w0 w
  le : B ≤ w0.heap.size
variable {es : List Plain.Ev} {N m B : Nat} {w0 w w' : World} {vw : Value} {g : Nat → Nat}
theorem WI.grow (h : WI es N m B w0 w vw g) (b : Below w.heap.size w w') : WI es N m B w0 w' vw g :=
  ⟨owns_below h.own b, fun k hk => (h.rows k hk).of_block (b.block _ (h.rows k hk).lt), h.bel.trans (b.mono h.bel.size), h.le⟩
theorem WI.start (w : World) : WI es N 0 w.heap.size w w (.slice none 0 0) g := ⟨World.ownsRow_nil _ _ _ _, fun k hk => by omega, Below.refl _ _, Nat.le_refl _⟩
theorem WI.next {wx w1 : World} {o : Obj} {vw' : Value} {b : Nat} (h : WI es N m w0.heap.size w0 w vw g) (bl : Below w.heap.size w wx) (hr : wx.rowIs b 4 N (fun j => .bool (Plain.toK es N m m j)))
    (hg : (wx.alloc o).grownBy w1 vw.ownBlock) (hown : w1.ownsRow w0.heap.size 30 1 vw' (m + 1) (rvals N g m ++ [.slice (some ⟨b, 0, none⟩) N N])) :
    WI es N (m + 1) w0.heap.size w0 w1 vw' (fun k => if k = m then b else g k) := by
  have h2 := (h.grow bl).grow ((Below.refl _ _).alloc (Nat.le_refl _) o)
  have hr2 := hr.alloc o
  refine ⟨by rw [← rvals_snoc]; exact hown, fun k hk => ?_, h2.bel.grown hg h2.bel.size fun k hk => (h2.own.lt k hk).1, h.le⟩
  by_cases e : k = m
  · subst e
    simp only [if_true]
    refine (hr2.of_block (hg.block _ hr2.lt (row_owns_ne hr2 h2.own (by decide)))).congr fun j hj => ?_
    rw [Plain.way_last _ _ _ _ hj]
  · have hk' : k < m := by omega
    simp only [e, if_false]
    have h3 := h2.rows k hk'
    refine (h3.of_block (hg.block _ h3.lt (row_owns_ne h3 h2.own (by decide)))).congr fun j hj => ?_
    rw [Plain.way_old _ _ _ _ _ hk']

/-- Within the inner loop: the first j, and k itself, are done. -/
def toJ (l : List Plain.Ev) (n i k j t : Nat) : Bool := if t < j ∨ t = k then Plain.toK l n i (k + 1) t else Plain.toK l n i k t
theorem toJ_start {wx : World} {b i k L : Nat} {l : List Plain.Ev} (hs : Plain.stepB l i k = true) (h : wx.rowIs b 4 L (fun t => .bool (Plain.toK l L i k t))) :
    (wx.setCell ⟨b, k, none⟩ (.bool true)).rowIs b 4 L (fun t => .bool (toJ l L i k 0 t)) := by
  refine (h.set k _).congr fun t _ => ?_
  unfold toJ
  by_cases e : t = k
  · subst e; rw [if_pos rfl, if_pos (.inr rfl), Plain.toK_self hs]
  · rw [if_neg e, if_neg (by omega)]
theorem toJ_set {wx : World} {b i k j L : Nat} {l : List Plain.Ev} {x : Bool} (hj : j < k) (h : wx.rowIs b 4 L (fun t => .bool (toJ l L i k j t))) (hx : Plain.toK l L i (k + 1) j = x) :
    (wx.setCell ⟨b, j, none⟩ (.bool x)).rowIs b 4 L (fun t => .bool (toJ l L i k (j + 1) t)) := by
  refine (h.set j _).congr fun t _ => ?_
  unfold toJ
  by_cases e : t = j
  · subst e; rw [if_pos rfl, if_pos (.inl (by omega)), hx]
  · rw [if_neg e]
    by_cases d : t < j ∨ t = k
    · rw [if_pos d, if_pos (by omega)]
    · rw [if_neg d, if_neg (by omega)]
theorem toJ_done {wx : World} {b i k L : Nat} {l : List Plain.Ev} (hs : Plain.stepB l i k = true) (h : wx.rowIs b 4 L (fun t => .bool (toJ l L i k k t))) : wx.rowIs b 4 L (fun t => .bool (Plain.toK l L i (k + 1) t)) := by
  refine h.congr fun t _ => ?_
  unfold toJ
  by_cases e : t < k ∨ t = k
  · rw [if_pos e]
  · rw [if_neg e, Plain.toK_more hs (by omega)]
theorem stepB_is {l : List Plain.Ev} {i k wi wk : Nat} {oi : Int} {ki : Int} (h1 : Plain.wh l i = wi) (h2 : Plain.wh l k = wk) (h3 : (Plain.ev l i).1 = ki) (h4 : (Plain.ev l i).2.2 = oi) (h0 : ki = 3 → 0 ≤ oi) :
    Plain.stepB l i k = (decide ((wk : Int) = (wi : Int)) || (decide (ki = 3) && decide (oi = (k : Int)))) := by
  unfold Plain.stepB Plain.kd Plain.ofp
  rw [h1, h2, h3, h4]
  have e1 : decide (wk = wi) = decide ((wk : Int) = (wi : Int)) := by rw [Bool.eq_iff_iff, decide_eq_true_iff, decide_eq_true_iff]; omega
  rw [e1]
  by_cases c : ki = 3
  · have := h0 c
    have e2 : decide (oi.toNat = k) = decide (oi = (k : Int)) := by rw [Bool.eq_iff_iff, decide_eq_true_iff, decide_eq_true_iff]; omega
    rw [e2]
  · simp [c]
/-- order of the clocks of two events. -/
theorem order_rows (g1 d1 g2 d2 : Nat) (a b : List Int) (ha : a.length = 4) (hb : b.length = 4) (he : Plain.cE a b = 0) (z : Int) (hz : Plain.oV a b = z) (w : World) (h1 : RowI w g1 a) (h2 : RowI w g2 b) :
    Calls Try.prog 7 #[.slice (some ⟨g1, 0, none⟩) 4 d1, .slice (some ⟨g2, 0, none⟩) 4 d2] w fun e w' => e = .returned (.int .i64 z) ∧ ∃ q, w' = w.drewN q := by
  have s1 := h1.seg d1
  have s2 := h2.seg d2
  rw [ha] at s1
  rw [hb] at s2
  have K := order_any _ _ a b (by omega) (by omega) w s1 s2
  rw [he, hz] at K
  go_enter Try.func7, Try.ntmps7
  go_wp2_with fail
  refine K.mono ?_
  rintro e w' ⟨rfl, q, rfl⟩
  clear K
  go_wp2
  go_ret
  exact ⟨rfl, q, rfl⟩
theorem RowI.drewN {w : World} {b : Nat} {l : List Int} (h : RowI w b l) (q : Nat) : RowI (w.drewN q) b l := h.below (below_drewN (Below.refl _ _) q) h.lt
end Go.Proofs.Ytlckhpfokijknae
