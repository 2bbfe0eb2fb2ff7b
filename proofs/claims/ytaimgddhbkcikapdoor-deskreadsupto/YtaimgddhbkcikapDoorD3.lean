/-
  A step in its box; what lies there while desk.Show goes through its letters.
-/
import Derived.Test.YtaimgddhbkcikapDoorD2
import Derived.Test.YtaimgddhbkcikapDoorSh
import Derived.Lib.AppendIntMem
import Derived.Lib.OthersKept
import Derived.Lib.VarintMem
import Derived.Laws.RangeAny
import Derived.Deep.RegionHeld3
import Derived.Deep.LoopGhost
import Derived.Deep.CutBlock
namespace Go.Proofs.YtaimgddhbkcikapDoor
open Go Go.RowKit Go.Sort Go.Shelf
open Plain

/-- A step's cells. -/
abbrev stC (s : Sp) : Array Value := #[.int .i64 s.kd, .int .i64 s.wh, .int .i64 s.it, .int .i64 s.ct, .int .i64 s.lf, .int .i64 s.id, .int .i64 s.lb, .int .i64 s.ky]
abbrev bs (l : List UInt8) : Value := .string ⟨l.toArray⟩
def In64 (n : Int) : Prop := -9223372036854775808 ≤ n ∧ n ≤ 9223372036854775807
def InSp (s : Sp) : Prop := ∀ i, In64 (s.at i)
theorem InSp.out {s : Sp} (h : InSp s) (i : Nat) : InSp (s.out i) := by
  have z : In64 0 := by unfold In64; omega
  have k : ∀ j, (s.out i).at j = s.at j ∨ (s.out i).at j = 0 := by
    intro j
    rcases i with _ | _ | _ | _ | _ | _ | _ | _ | i <;> rcases j with _ | _ | _ | _ | _ | _ | _ | _ | j <;> first | exact .inl rfl | exact .inr rfl
  intro j
  rcases k j with e | e <;> rw [e]
  · exact h j
  · exact z
theorem cell_block {w : World} {b : Nat} {cs : Array Value} {t : TypeId} {fz : Nat × Nat} (h : w.heap[b]? = some (.cells cs t fz)) (i : Nat) : w.cell? ⟨b, i, none⟩ = cs[i]? := by
  simp [World.cell?, h]
theorem frozen_block {w : World} {b : Nat} {cs : Array Value} {t : TypeId} (h : w.heap[b]? = some (.cells cs t (0, 0))) (i : Nat) : w.frozen? ⟨b, i, none⟩ = false := by
  simp [World.frozen?, h]
theorem set_block {w : World} {b : Nat} {cs : Array Value} {t : TypeId} {fz : Nat × Nat} (h : w.heap[b]? = some (.cells cs t fz)) (i : Nat) (v : Value) : (w.setCell ⟨b, i, none⟩ v).heap[b]? = some (.cells (cs.setIfInBounds i v) t fz) := by
  simp only [World.setCell]
  rw [Array.getElem?_modify, if_pos rfl, h]
  rfl
theorem set_other (w : World) (b k i : Nat) (v : Value) (hk : k ≠ b) : (w.setCell ⟨b, i, none⟩ v).heap[k]? = w.heap[k]? := by
  simp only [World.setCell]
  rw [Array.getElem?_modify]
  simp [Ne.symm hk]
theorem set_below {B : Nat} {a w : World} (h : Below B a w) {b i : Nat} {v : Value} (hb : B ≤ b) : Below B a (w.setCell ⟨b, i, none⟩ v) :=
  ⟨h.os, h.tape, h.output, by simpa [World.setCell] using h.size, fun k hk => by rw [set_other w b k i v (by omega)]; exact h.block k hk⟩
/-- The step's box at block N. -/
def BoxS (w : World) (N : Nat) (s : Sp) : Prop := w.heap[N]? = some (.cells (stC s) 23 (0, 0))
theorem BoxS.cell {w : World} {N : Nat} {s : Sp} (h : BoxS w N s) : w.cell? ⟨N, 0, none⟩ = some (.int .i64 s.kd) ∧ w.cell? ⟨N, 1, none⟩ = some (.int .i64 s.wh) ∧ w.cell? ⟨N, 2, none⟩ = some (.int .i64 s.it) ∧ w.cell? ⟨N, 3, none⟩ = some (.int .i64 s.ct) ∧ w.cell? ⟨N, 4, none⟩ = some (.int .i64 s.lf) ∧ w.cell? ⟨N, 5, none⟩ = some (.int .i64 s.id) ∧ w.cell? ⟨N, 6, none⟩ = some (.int .i64 s.lb) ∧ w.cell? ⟨N, 7, none⟩ = some (.int .i64 s.ky) := by
  refine ⟨?_, ?_, ?_, ?_, ?_, ?_, ?_, ?_⟩ <;> (rw [cell_block h]; rfl)
theorem BoxS.at {w : World} {N : Nat} {s : Sp} (h : BoxS w N s) {i : Nat} (hi : i < 8) : w.cell? ⟨N, i, none⟩ = some (.int .i64 (s.at i)) := by
  rw [cell_block h]
  have : i = 0 ∨ i = 1 ∨ i = 2 ∨ i = 3 ∨ i = 4 ∨ i = 5 ∨ i = 6 ∨ i = 7 := by omega
  rcases this with rfl | rfl | rfl | rfl | rfl | rfl | rfl | rfl <;> rfl
theorem BoxS.put {w : World} {N : Nat} {s : Sp} (h : BoxS w N s) {i : Nat} (h1 : 1 ≤ i) (hi : i < 8) : BoxS (w.setCell ⟨N, i, none⟩ (.int .i64 0)) N (s.out i) := by
  unfold BoxS
  rw [set_block h]
  have : i = 1 ∨ i = 2 ∨ i = 3 ∨ i = 4 ∨ i = 5 ∨ i = 6 ∨ i = 7 := by omega
  rcases this with rfl | rfl | rfl | rfl | rfl | rfl | rfl <;> rfl
theorem BoxS.keep {w w' : World} {N : Nat} {s : Sp} (h : BoxS w N s) (e : w'.heap[N]? = w.heap[N]?) : BoxS w' N s := Eq.trans e h
theorem BoxS.lt {w : World} {N : Nat} {s : Sp} (h : BoxS w N s) : N < w.heap.size := (Array.getElem?_eq_some_iff.1 h).1

/-- The table of words. -/
def Wd (w : World) : Prop := ∀ k, k < 12 → w.cell? ⟨0, k * 2, none⟩ = some (bs (wordL k)) ∧ w.cell? ⟨0, k * 2 + 1, none⟩ = some (bs (lettL k))
theorem Wd.lt {w : World} (h : Wd w) : 0 < w.heap.size := by
  have := (h 0 (by omega)).1
  rcases Nat.lt_or_ge 0 w.heap.size with h' | h'
  · exact h'
  · simp [World.cell?, Array.getElem?_eq_none h'] at this
theorem Wd.keep {w w' : World} {B : Nat} (h : Wd w) (hb : Below B w w') (hB : 0 < B) : Wd w' := fun k hk => by
  have := hb.block _ hB
  unfold World.cell?
  simp only [this]
  exact h k hk
/-- All that is read of the library's and the program's own variables. -/
structure Env (B : Nat) (w : World) : Prop where
  wd : Wd w
  lt : 0 < B
  tab : Lib.TabBelow Tryd.prog B w "internal/strconv.uint64pow10" .u64 Lib.pow10Tab
  le : B ≤ w.heap.size
theorem Env.on {B : Nat} {w w' : World} (h : Env B w) (hb : Below B w w') : Env B w' := ⟨h.wd.keep hb h.lt, h.lt, h.tab.on hb, Nat.le_trans h.le hb.size⟩

/-- What lies there at a round of Show's loop. -/
structure ShI (B : Nat) (wr : World) (N M It : Nat) (nm : ByteArray) (pos : Nat) (s : Sp) : Prop where
  env : Env B wr
  box : BoxS wr N s
  mp : MpI wr M N 0 127
  it : wr.heap[It]? = some (.stringIter nm pos)
  bN : B ≤ N
  nm : N < M
  mi : M < It
theorem ShI.next {B : Nat} {wr : World} {N M It : Nat} {nm : ByteArray} {pos : Nat} {s : Sp} (h : ShI B wr N M It nm pos s) (pos' : Nat) : ShI B (wr.iterAt It nm pos') N M It nm pos' s := by
  have hn := h.nm; have hm := h.mi; have hb := h.bN
  exact ⟨h.env.on (Lib.below_iterAt (Below.refl _ _) (by omega) _ _), h.box.keep (Lib.iterAt_other _ _ _ _ _ (by omega)), h.mp.of_block (Lib.iterAt_other _ _ _ _ _ (by omega)), Lib.iterAt_heap _ _ _ _ _ h.it, hb, hn, hm⟩
theorem ShI.grow {B : Nat} {wr w' : World} {N M It : Nat} {nm : ByteArray} {pos : Nat} {s : Sp} (h : ShI B wr N M It nm pos s) (hb : Below wr.heap.size wr w') : ShI B w' N M It nm pos s := by
  have hlt : It < wr.heap.size := (Array.getElem?_eq_some_iff.1 h.it).1
  have hn := h.nm; have hm := h.mi
  exact ⟨h.env.on ⟨hb.os, hb.tape, hb.output, hb.size, fun k hk => hb.block k (Nat.lt_of_lt_of_le hk h.env.le)⟩, h.box.keep (hb.block _ (by omega)), h.mp.of_block (hb.block _ (by omega)), (hb.block _ hlt).trans h.it, h.bN, hn, hm⟩
theorem ShI.put {B : Nat} {wr : World} {N M It : Nat} {nm : ByteArray} {pos : Nat} {s : Sp} (h : ShI B wr N M It nm pos s) {i : Nat} (h1 : 1 ≤ i) (hi : i < 8) : ShI B (wr.setCell ⟨N, i, none⟩ (.int .i64 0)) N M It nm pos (s.out i) := by
  have hn := h.nm; have hm := h.mi; have hb := h.bN
  exact ⟨h.env.on (set_below (Below.refl _ _) hb), h.box.put h1 hi, h.mp.of_block (set_other _ _ _ _ _ (by omega)), (set_other _ _ _ _ _ (by omega)).trans h.it, hb, hn, hm⟩
theorem below_grow {w : World} (q : Nat) (os : Array Obj) : Below w.heap.size w (grow (w.drewN q) os) :=
  ⟨rfl, rfl, rfl, by simp [grow, World.drewN], fun k hk => by simp [grow, World.drewN, Array.getElem?_append_left hk]⟩
end Go.Proofs.YtaimgddhbkcikapDoor
