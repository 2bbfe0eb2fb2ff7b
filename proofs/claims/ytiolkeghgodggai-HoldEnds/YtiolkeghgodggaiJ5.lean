/-
  A hold that nobody ends, plain; orders appended, one and two.
-/
import Derived.Test.YtiolkeghgodggaiJ4
namespace Go.Proofs.Ytiolkeghgodggai.Hd
open Go.RowKit Go.Shelf

namespace Plain
/-- The orders of HoldEnds: some, five ticks, a gain and a hold of it, and k ticks. -/
def endA (os : List Or) : List Or := os ++ List.replicate 5 tickO
def endB (os : List Or) (n t : Int) : List Or := endA os ++ [⟨1, n, 0, 0⟩, ⟨3, n, t, 0⟩]
def endL (os : List Or) (n t : Int) (k : Nat) : List Or := endB os n t ++ List.replicate k tickO
theorem endA_len (os : List Or) : (endA os).length = os.length + 5 := by simp [endA]
theorem endB_len (os : List Or) (n t : Int) : (endB os n t).length = os.length + 7 := by simp [endB, endA_len]
theorem endL_len (os : List Or) (n t : Int) (k : Nat) : (endL os n t k).length = os.length + 7 + k := by simp [endL, endB_len]
/-- What there is behind the five ticks. -/
def endR (os : List Or) : Rk := runF Rk.nil (endA os)
/-- Orders of little. -/
def Little (os : List Or) : Prop := ∀ o, o ∈ os → (1 ≤ o.kind ∧ o.kind ≤ 7) ∧ (1 ≤ o.count ∧ o.count ≤ 9) ∧ (1 ≤ o.life ∧ o.life ≤ 5) ∧ (1 ≤ o.id ∧ o.id ≤ 9)
theorem endR_zero {os : List Or} (h : Little os) : Zero (endR os).ls := by
  have h0 : Within 5 Rk.nil := fun x hx => nomatch hx
  have h1 : Within 5 (runF Rk.nil os) := within_run h0 os (by omega) fun o ho => by have := h o ho; omega
  have e : endR os = stepR (stepR (stepR (stepR (stepR (runF Rk.nil os) tickO) tickO) tickO) tickO) tickO := by
    unfold endR endA
    rw [runF_app]
    rfl
  have h2 := within_tick (k := 4) (r := runF Rk.nil os) h1 (by omega) 0 0 0
  have h3 := within_tick (k := 3) h2 (by omega) 0 0 0
  have h4 := within_tick (k := 2) h3 (by omega) 0 0 0
  have h5 := within_tick (k := 1) h4 (by omega) 0 0 0
  have h6 := within_tick (k := 0) h5 (by omega) 0 0 0
  intro x hx
  rw [e] at hx
  have := h6 x hx
  omega
theorem endR_hv {os : List Or} (h : Little os) (hl : os.length ≤ 60) : ∃ g, Hv (endR os) g ∧ g ≤ 1000 := by
  refine ⟨_, Hv.nil.run (endA os), ?_⟩
  have := gain_le (r := Rk.nil) (endA os) 9 (by omega) fun o ho => by
    rcases List.mem_append.1 ho with ho | ho
    · have := h o ho; omega
    · have : o = tickO := List.eq_of_mem_replicate ho
      rw [this]; unfold tickO; dsimp only; omega
  rw [endA_len] at this
  omega
theorem endR_made (os : List Or) (hl : os.length ≤ 60) : (endR os).cs.length ≤ 65 := by
  have := made_le Rk.nil (endA os)
  rw [endA_len] at this
  have e : Rk.nil.cs.length = 0 := rfl
  unfold endR
  omega
theorem endB_run {os : List Or} (h : Little os) (hl : os.length ≤ 60) (n t : Int) (n1 : 1 ≤ n) (n9 : n ≤ 9) (t1 : 1 ≤ t) (t20 : t ≤ 20) : runF Rk.nil (endB os n t) = lastR (endR os).free (endR os).used (endR os).cs (endR os).ls n t 0 := by
  obtain ⟨g, hv, hg⟩ := endR_hv h hl
  obtain ⟨e1, _, e3⟩ := ends_hold hv (endR_zero h) n t n1 n9 t1 t20 (by omega) 0 0 0 0
  unfold endB
  rw [runF_app]
  show runF (endR os) _ = _
  simp only [runF]
  rw [e1, e3]
theorem endL_run {os : List Or} (h : Little os) (hl : os.length ≤ 60) (n t : Int) (k : Nat) (n1 : 1 ≤ n) (n9 : n ≤ 9) (t1 : 1 ≤ t) (t20 : t ≤ 20) : runF Rk.nil (endL os n t k) = lastR (endR os).free (endR os).used (endR os).cs (endR os).ls n t k := by
  obtain ⟨g, hv, hg⟩ := endR_hv h hl
  unfold endL
  rw [runF_app, endB_run h hl n t n1 n9 t1 t20, lastR_ticks _ _ _ _ _ _ _ _ hv.ln (endR_zero h) t1, Nat.zero_add]
/-- What is told of the hold. -/
theorem endL_at {os : List Or} (h : Little os) (hl : os.length ≤ 60) (n t : Int) (k : Nat) (n1 : 1 ≤ n) (n9 : n ≤ 9) (t1 : 1 ≤ t) (t20 : t ≤ 20) :
    (playF Rk.nil (endL os n t k)).getD (os.length + 6) default = ⟨0, (endR os).cs.length + 1, (endR os).free, n, (endR os).used⟩ := by
  obtain ⟨g, hv, hg⟩ := endR_hv h hl
  obtain ⟨e1, e2, _⟩ := ends_hold hv (endR_zero h) n t n1 n9 t1 t20 (by omega) 0 0 0 0
  have eL : endL os n t k = (endA os ++ [⟨1, n, 0, 0⟩]) ++ (⟨3, n, t, 0⟩ :: List.replicate k tickO) := by
    unfold endL endB; simp
  have hlen : (endA os ++ [(⟨1, n, 0, 0⟩ : Or)]).length = os.length + 6 := by rw [List.length_append, endA_len]; rfl
  rw [playF_at _ _ _ (by rw [endL_len]; omega), eL]
  have et : ((endA os ++ [(⟨1, n, 0, 0⟩ : Or)]) ++ (⟨3, n, t, 0⟩ :: List.replicate k tickO)).take (os.length + 6) = endA os ++ [⟨1, n, 0, 0⟩] := by
    rw [← hlen, List.take_left']
    rfl
  have eg : ((endA os ++ [(⟨1, n, 0, 0⟩ : Or)]) ++ (⟨3, n, t, 0⟩ :: List.replicate k tickO)).getD (os.length + 6) default = ⟨3, n, t, 0⟩ := by
    rw [← hlen, List.getD_eq_getElem?_getD, List.getElem?_append_right (Nat.le_refl _), Nat.sub_self]; rfl
  rw [et, eg, runF_app]
  show toldR (stepR (endR os) _) _ = _
  rw [e1, e2]
/-- What is told of its end. -/
theorem endL_last {os : List Or} (h : Little os) (hl : os.length ≤ 60) (n t : Int) (k : Nat) (n1 : 1 ≤ n) (n9 : n ≤ 9) (t1 : 1 ≤ t) (t20 : t ≤ 20) :
    (playF Rk.nil (endL os n t k ++ [⟨4, 0, 0, (endR os).cs.length + 1⟩])).getD (os.length + 7 + k) default = if (k : Int) < t then ⟨0, 0, (endR os).free, 0, (endR os).used + n⟩ else ⟨10, 0, (endR os).free + n, 0, (endR os).used⟩ := by
  obtain ⟨g, hv, hg⟩ := endR_hv h hl
  obtain ⟨e1, e2⟩ := ends_last hv (endR_zero h) n t k 0 0
  have hlen := endL_len os n t k
  rw [playF_at _ _ _ (by rw [List.length_append, hlen]; simp), ← hlen, List.take_left', endL_run h hl n t k n1 n9 t1 t20]
  · have eg : (endL os n t k ++ [(⟨4, 0, 0, (endR os).cs.length + 1⟩ : Or)]).getD (endL os n t k).length default = ⟨4, 0, 0, (endR os).cs.length + 1⟩ := by
      rw [List.getD_eq_getElem?_getD, List.getElem?_append_right (Nat.le_refl _), Nat.sub_self]; rfl
    rw [eg]
    by_cases c : (k : Int) < t
    · rw [if_pos c, e1 c]
    · rw [if_neg c, e2 (by omega)]
  · rfl
/-- Orders of small numbers. -/
def Sml (l : List Or) : Prop := ∀ o, o ∈ l → (0 ≤ o.kind ∧ o.kind ≤ 1000) ∧ (0 ≤ o.count ∧ o.count ≤ 1000) ∧ (0 ≤ o.life ∧ o.life ≤ 1000) ∧ (0 ≤ o.id ∧ o.id ≤ 1000)
theorem Sml.app {a b : List Or} (ha : Sml a) (hb : Sml b) : Sml (a ++ b) := fun o ho => by
  rcases List.mem_append.1 ho with h | h
  · exact ha o h
  · exact hb o h
theorem Sml.one {o : Or} (h : (0 ≤ o.kind ∧ o.kind ≤ 1000) ∧ (0 ≤ o.count ∧ o.count ≤ 1000) ∧ (0 ≤ o.life ∧ o.life ≤ 1000) ∧ (0 ≤ o.id ∧ o.id ≤ 1000)) : Sml [o] := fun x hx => by
  have e : x = o := by simpa using hx
  rw [e]; exact h
theorem Sml.ticks (k : Nat) : Sml (List.replicate k tickO) := fun o ho => by
  have e : o = tickO := List.eq_of_mem_replicate ho
  rw [e]; unfold tickO; dsimp only; omega
theorem endL_sml {os : List Or} (h : Little os) (n t : Int) (k : Nat) (n1 : 1 ≤ n) (n9 : n ≤ 9) (t1 : 1 ≤ t) (t20 : t ≤ 20) : Sml (endL os n t k) := by
  unfold endL endB endA
  refine (((Sml.app (fun o ho => ?_) (Sml.ticks 5)).app ((Sml.one (o := ⟨1, n, 0, 0⟩) ?_).app (Sml.one (o := ⟨3, n, t, 0⟩) ?_))).app (Sml.ticks k))
  · have := h o ho; omega
  · dsimp only; omega
  · dsimp only; omega
end Plain
theorem Plain.Sml.ins {l : List Plain.Or} (h : Plain.Sml l) : ∀ j, j < l.length → InO (l.getD j default) := fun j hj => by
  have := h (l.getD j default) (by rw [Plain.getD_lt' _ _ _ hj]; exact List.getElem_mem _)
  exact ⟨by omega, by omega, by omega, by omega⟩
theorem CellS.kept {w w' : World} {b o : Nat} {d : Plain.St} {row : Option Nat} (h : CellS w b o d) (g : w.grownBy w' row) (hne : row ≠ some b) (hb : b < w.heap.size) : CellS w' b o d := by
  have e : w'.heap[b]? = w.heap[b]? := g.block b hb (fun x => hne x.symm)
  exact ⟨(World.cell?_of_block (w := w) e).trans h.c0, (World.cell?_of_block (w := w) e).trans h.c1, (World.cell?_of_block (w := w) e).trans h.c2, (World.cell?_of_block (w := w) e).trans h.c3, (World.cell?_of_block (w := w) e).trans h.c4⟩
/-- Two orders more, onto a row of orders of its own. -/
theorem app_order2 {w wx : World} {vo : Value} {s : List Plain.Or} {k : Nat} (own : wx.ownsRow w.heap.size 31 4 vo k (encO.vals s)) (be : Below w.heap.size w wx) (hs : s.length = k) (hk : k ≤ 1000) (a b : Plain.Or) :
    ∃ p c U, (Builtin.append_ #[23, 23] 23 #[vo, .slice (some ⟨wx.heap.size, 0, none⟩) 2 2]).run Try.prog (wx.alloc (.cells #[.int .i64 a.kind, .int .i64 a.count, .int .i64 a.life, .int .i64 a.id, .int .i64 b.kind, .int .i64 b.count, .int .i64 b.life, .int .i64 b.id] 31)) = .ok (.slice p (k + 2) c) U ∧
      U.ownsRow w.heap.size 31 4 (.slice p (k + 2) c) (k + 2) (encO.vals (s ++ [a, b])) ∧ Below w.heap.size w U := by
  obtain ⟨j0, ji, jz0, jz1, jz2⟩ := info_parts Try.infoOrder
  have hge := be.size
  obtain ⟨v', U, e1, e2, e3⟩ := Enc.app (E := encO) (m := 2) (c := 2) Try.underlying23 ji jz0 jz1 jz2 rfl (own.alloc _) (two_holds wx a b) rfl (fun e => by cases e) (by omega) (by omega) (by simp; omega)
  obtain ⟨p, c, rfl, _⟩ := Enc.owns e2 (by simp [hs])
  exact ⟨p, c, U, e1, e2, (be.alloc hge _).grown e3 (by simp; omega) (fun j hj => (own.lt j hj).1)⟩
end Go.Proofs.Ytiolkeghgodggai.Hd
