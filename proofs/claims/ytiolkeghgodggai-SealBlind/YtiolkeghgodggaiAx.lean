/-
  Some moves, and where they stood, in two rows that grow.
-/
import Derived.Test.YtiolkeghgodggaiMi
import Derived.Test.YtiolkeghgodggaiAw
namespace Go.Proofs.Ytiolkeghgodggai.Se
open Go.RowKit Go.Shelf Go.Sort Go.Lib

/-- A row of numbers of the call's own. -/
structure QI (w W : World) (v : Value) (ws : List Nat) : Prop where
  ow : W.ownsRow w.heap.size 3 1 v ws.length (encI.vals (ws.map Int.ofNat))
  be : Below w.heap.size w W
namespace QI
variable {w W W' : World} {v : Value} {ws : List Nat}
theorem nil (w : World) : QI w w (.slice none 0 0) [] := ⟨World.ownsRow_nil _ _ _ _, Below.refl _ _⟩
theorem grow (h : QI w W v ws) (g : Below W.heap.size W W') : QI w W' v ws := ⟨owns_grow h.ow g, h.be.trans (g.mono h.be.size)⟩
theorem form (h : QI w W v ws) : ∃ p c, v = .slice p ws.length c ∧ (0 < ws.length → ∃ g, p = some ⟨g, 0, none⟩ ∧ ∀ j, j < ws.length → W.cell? ⟨g, j, none⟩ = some (.int .i64 ((ws.getD j 0 : Nat) : Int))) := by
  have hl : (ws.map Int.ofNat).length = ws.length := by simp
  obtain ⟨p, c, e, hh, _, hg⟩ := encI.owns h.ow hl
  refine ⟨p, c, e, fun h0 => ?_⟩
  obtain ⟨g, rfl, _⟩ := hg h0
  obtain ⟨b, off, e2, _, hc⟩ := hh (by omega)
  injection e2 with e2
  injection e2 with ea eb
  subst ea eb
  refine ⟨g, rfl, fun j hj => ?_⟩
  have := hc j _ (encI_at (by rw [hl]; exact hj))
  rw [Nat.zero_add, getD_map Int.ofNat ws 0 0 hj] at this
  exact this
theorem snoc (h : QI w W v ws) (hb : ws.length ≤ 1000) (j : Nat) :
    ∃ p c U, (Builtin.append_ #[51, 51] 51 #[v, .slice (some ⟨W.heap.size, 0, none⟩) 1 1]).run Try.prog (W.alloc (.cells #[.int .i64 (j : Int)] 3)) = .ok (.slice p (ws.length + 1) c) U ∧ QI w U (.slice p (ws.length + 1) c) (ws ++ [j]) ∧
      (W.alloc (.cells #[.int .i64 (j : Int)] 3)).grownBy U v.ownBlock := by
  obtain ⟨j0, ji, jz0, jz1, jz2⟩ := info_parts Try.infoInt
  obtain ⟨p, c, U, h1, h2, h3⟩ := Enc.snoc (E := encI) Try.underlying51 ji jz0 jz1 jz2 rfl h.ow (by simp) hb (by omega) h.be.size (j : Int)
  have bel : Below W.heap.size W (W.alloc (.cells #[.int .i64 (j : Int)] 3)) := (Below.refl _ _).alloc (Nat.le_refl _) _
  have k1 := h.grow bel
  have kb : Kb w.heap.size W U := (Kb.of_below bel).trans (Kb.grown k1.ow (by decide) h3)
  refine ⟨p, c, U, h1, ⟨?_, h.be.trans (kb.below h.be.size)⟩, h3⟩
  have e : (ws ++ [j]).map Int.ofNat = ws.map Int.ofNat ++ [(j : Int)] := by simp
  rw [e, List.length_append]
  exact h2
end QI
/-- Two rows. -/
structure FW (w W : World) (v vq : Value) (Fs : List RL) (ws : List Nat) : Prop where
  li : LI w W v Fs
  qi : QI w W vq ws
namespace FW
variable {w W W' : World} {v vq : Value} {Fs : List RL} {ws : List Nat}
theorem nil (w : World) : FW w w (.slice none 0 0) (.slice none 0 0) [] [] := ⟨LI.nil w, QI.nil w⟩
theorem grow (h : FW w W v vq Fs ws) (g : Below W.heap.size W W') : FW w W' v vq Fs ws := ⟨h.li.grow g, h.qi.grow g⟩
theorem step (h : FW w W v vq Fs ws) (hb : Fs.length ≤ 300) (hb2 : ws.length ≤ 300) (y : RL) (hy : By w.heap.size W y.p y.c y.x.data) (j : Nat) :
    ∃ p c U p2 c2 U2, (Builtin.append_ #[38, 38] 38 #[v, .slice (some ⟨W.heap.size, 0, none⟩) 1 1]).run Try.prog (W.alloc (boxL y)) = .ok (.slice p (Fs.length + 1) c) U ∧
      (Builtin.append_ #[51, 51] 51 #[vq, .slice (some ⟨U.heap.size, 0, none⟩) 1 1]).run Try.prog (U.alloc (.cells #[.int .i64 (j : Int)] 3)) = .ok (.slice p2 (ws.length + 1) c2) U2 ∧
      FW w U2 (.slice p (Fs.length + 1) c) (.slice p2 (ws.length + 1) c2) (Fs ++ [y]) (ws ++ [j]) := by
  obtain ⟨j0, ji, jz0, jz1, jz2⟩ := info_parts Try.infoLe
  obtain ⟨p, c, U, h1, h2, h3⟩ := Enc.snoc (E := encL) Try.underlying38 ji jz0 jz1 jz2 rfl h.li.ow rfl (by omega) (by omega) h.li.be.size y
  have bel : Below W.heap.size W (W.alloc (boxL y)) := (Below.refl _ _).alloc (Nat.le_refl _) _
  have k1 := h.grow bel
  have kb : Kb w.heap.size W U := (Kb.of_below bel).trans (Kb.grown k1.li.ow (by decide) h3)
  have hlen : (Fs ++ [y]).length = Fs.length + 1 := by simp
  have liU : LI w U (.slice p (Fs.length + 1) c) (Fs ++ [y]) := by
    refine ⟨by rw [hlen]; exact h2, fun r hr => ?_, h.li.be.trans (kb.below h.li.be.size)⟩
    rcases List.mem_append.1 hr with m | m
    · exact (h.li.bs r m).keep kb
    · have e : r = y := by simpa using m
      subst e
      exact hy.keep kb
  have qiU : QI w U vq ws := ⟨k1.qi.ow.kept h3 (RI.ne_of k1.qi.ow k1.li.ow (by decide)), liU.be⟩
  obtain ⟨p2, c2, U2, g1, g2, g3⟩ := qiU.snoc (by omega) j
  have bel2 : Below U.heap.size U (U.alloc (.cells #[.int .i64 (j : Int)] 3)) := (Below.refl _ _).alloc (Nat.le_refl _) _
  have q1 := qiU.grow bel2
  have l1 := liU.grow bel2
  have kb2 : Kb w.heap.size U U2 := (Kb.of_below bel2).trans (Kb.grown q1.ow (by decide) g3)
  exact ⟨p, c, U, p2, c2, U2, h1, g1, ⟨⟨l1.ow.kept g3 (RI.ne_of l1.ow q1.ow (by decide)), fun r hr => (liU.bs r hr).keep kb2, liU.be.trans (kb2.below liU.be.size)⟩, g2⟩⟩
end FW
end Go.Proofs.Ytiolkeghgodggai.Se
