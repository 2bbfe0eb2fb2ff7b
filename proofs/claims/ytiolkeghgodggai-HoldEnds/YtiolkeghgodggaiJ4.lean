/-
  Orders and what is told of them, in two rows of the call's own.
-/
import Derived.Test.YtiolkeghgodggaiJ3
namespace Go.Proofs.Ytiolkeghgodggai.Hd
open Go.RowKit Go.Shelf

namespace Plain
theorem fewF_mem (r : Rk) (l : List Or) : ∀ o, o ∈ fewF r l → o ∈ l := by
  induction l generalizing r with
  | nil => intro o h; cases h
  | cons a l ih =>
    intro o h
    simp only [fewF] at h
    split at h
    · rcases List.mem_cons.1 h with e | e
      · exact e ▸ List.mem_cons_self ..
      · exact List.mem_cons_of_mem _ (ih _ o e)
    · exact List.mem_cons_of_mem _ (ih _ o h)
end Plain
/-- Some orders and what is told of some, each in a row of its own. -/
structure FW (w wx : World) (vf vw : Value) (fs : List Plain.Or) (ws : List Plain.St) (m1 m2 : Nat) : Prop where
  of : wx.ownsRow w.heap.size 31 4 vf m1 (encO.vals fs)
  ow : wx.ownsRow w.heap.size 34 5 vw m2 (encS.vals ws)
  be : Below w.heap.size w wx
  l1 : fs.length = m1
  l2 : ws.length = m2
namespace FW
variable {w wx wy : World} {vf vw : Value} {fs : List Plain.Or} {ws : List Plain.St} {m1 m2 : Nat}
theorem start (w : World) : FW w w (.slice none 0 0) (.slice none 0 0) [] [] 0 0 := ⟨World.ownsRow_nil _ _ _ _, World.ownsRow_nil _ _ _ _, Below.refl _ _, rfl, rfl⟩
theorem grow (h : FW w wx vf vw fs ws m1 m2) (g : Below wx.heap.size wx wy) : FW w wy vf vw fs ws m1 m2 := ⟨owns_grow h.of g, owns_grow h.ow g, h.be.trans (g.mono h.be.size), h.l1, h.l2⟩
/-- An order more. -/
theorem ord (h : FW w wx vf vw fs ws m1 m2) (hk : m1 ≤ 1000) (t : Plain.Or) :
    ∃ p c U, (Builtin.append_ #[23, 23] 23 #[vf, .slice (some ⟨wx.heap.size, 0, none⟩) 1 1]).run Try.prog (wx.alloc (.cells #[.int .i64 t.kind, .int .i64 t.count, .int .i64 t.life, .int .i64 t.id] 31)) = .ok (.slice p (m1 + 1) c) U ∧
      FW w U (.slice p (m1 + 1) c) vw (fs ++ [t]) ws (m1 + 1) m2 := by
  obtain ⟨p, c, U, e1, e2, e3, e4⟩ := app_order h.of h.be h.l1 hk t
  have h1 := h.grow ((Below.refl wx.heap.size wx).alloc (Nat.le_refl _) (.cells #[.int .i64 t.kind, .int .i64 t.count, .int .i64 t.life, .int .i64 t.id] 31))
  refine ⟨p, c, U, e1, ⟨e2, h1.ow.kept e4 ?_, e3, by simp [h.l1], h.l2⟩⟩
  cases hv : vw.ownBlock with
  | none => exact .inl rfl
  | some b => exact .inr (fun e => owns_apart h1.ow h1.of (by decide) hv e.symm)
/-- What is told of one more. -/
theorem told (h : FW w wx vf vw fs ws m1 m2) (hk : m2 ≤ 1000) (t : Plain.St) :
    ∃ p c U, (Builtin.append_ #[25, 25] 25 #[vw, .slice (some ⟨wx.heap.size, 0, none⟩) 1 1]).run Try.prog (wx.alloc (.cells #[.int .i64 (t.code : Nat), .int .i64 t.id, .int .i64 t.free, .int .i64 t.held, .int .i64 t.used] 34)) = .ok (.slice p (m2 + 1) c) U ∧
      FW w U vf (.slice p (m2 + 1) c) fs (ws ++ [t]) m1 (m2 + 1) := by
  obtain ⟨j0, ji, jz0, jz1, jz2⟩ := info_parts Try.infoStock
  have hone : encS.Holds (wx.alloc (.cells #[.int .i64 (t.code : Nat), .int .i64 t.id, .int .i64 t.free, .int .i64 t.held, .int .i64 t.used] 34)) (some ⟨wx.heap.size, 0, none⟩) [t] := Enc.one_holds (E := encS) wx t 34
  have h1 := h.grow ((Below.refl wx.heap.size wx).alloc (Nat.le_refl _) (.cells #[.int .i64 (t.code : Nat), .int .i64 t.id, .int .i64 t.free, .int .i64 t.held, .int .i64 t.used] 34))
  obtain ⟨v', U, e1, e2, e3⟩ := Enc.app (E := encS) (m := 1) (c := 1) Try.underlying25 ji jz0 jz1 jz2 rfl h1.ow hone rfl (fun e => by cases e) (by omega) (by omega) h1.be.size
  obtain ⟨p, c, rfl, _⟩ := Enc.owns e2 (by simp [h.l2])
  refine ⟨p, c, U, e1, ⟨h1.of.kept e3 ?_, e2, h1.be.grown e3 h1.be.size (fun j hj => (h1.ow.lt j hj).1), h.l1, by simp [h.l2]⟩⟩
  cases hv : vf.ownBlock with
  | none => exact .inl rfl
  | some b => exact .inr (fun e => owns_apart h1.of h1.ow (by decide) hv e.symm)
end FW
end Go.Proofs.Ytiolkeghgodggai.Hd
