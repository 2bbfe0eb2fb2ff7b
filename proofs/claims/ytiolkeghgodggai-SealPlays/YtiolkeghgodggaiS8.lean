/-
  seal.Play: moves, one by one, at an office that has nothing.
-/
import Derived.Test.YtiolkeghgodggaiSd
import Derived.Carry
namespace Go.Proofs.Ytiolkeghgodggai.Se
open Go.RowKit Go.Shelf Go.Sort Go.Lib

theorem Try.infoOd : (Try.prog.info? 44).map (fun i => (i.zero, i.size, i.bytes)) = some (some (.agg #[.int .i64 0, .int .i64 0, .int .i64 0, .slice none 0 0]), 4, 48) := by kernel_rfl
def zeroF (j : Nat) : Value := if j % 4 = 3 then .slice none 0 0 else .int .i64 0
def toldF (s : List RD) (j : Nat) : Value := (encD.vals s).getD j (zeroF j)
theorem toldF_snoc (s : List RD) (t : RD) (k j : Nat) (hvl : (encD.vals s).length = k * 4) : toldF (s ++ [t]) j = if j = k * 4 + 3 then .slice t.p t.d.data.length t.c else if j = k * 4 + 2 then .int .i64 t.d.size else if j = k * 4 + 1 then .int .i64 t.d.id else if j = k * 4 then .int .i64 (t.d.code : Nat) else toldF s j := by
  unfold toldF
  rw [encD.vals_app, encD.vals_one, List.getD_eq_getElem?_getD, List.getD_eq_getElem?_getD]
  by_cases h3 : j = k * 4 + 3
  · subst h3
    rw [if_pos rfl, List.getElem?_append_right (by omega), hvl, show k * 4 + 3 - k * 4 = 3 by omega, show (encD.enc t)[3]? = some (.slice t.p t.d.data.length t.c) from rfl]
    rfl
  rw [if_neg h3]
  by_cases h2 : j = k * 4 + 2
  · subst h2
    rw [if_pos rfl, List.getElem?_append_right (by omega), hvl, show k * 4 + 2 - k * 4 = 2 by omega, show (encD.enc t)[2]? = some (.int .i64 t.d.size) from rfl]
    rfl
  rw [if_neg h2]
  by_cases h1 : j = k * 4 + 1
  · subst h1
    rw [if_pos rfl, List.getElem?_append_right (by omega), hvl, show k * 4 + 1 - k * 4 = 1 by omega, show (encD.enc t)[1]? = some (.int .i64 t.d.id) from rfl]
    rfl
  rw [if_neg h1]
  by_cases h0 : j = k * 4
  · subst h0
    rw [if_pos rfl, List.getElem?_append_right (by omega), hvl, show k * 4 - k * 4 = 0 by omega, show (encD.enc t)[0]? = some (.int .i64 (t.d.code : Nat)) from rfl]
    rfl
  rw [if_neg h0]
  by_cases hlt : j < k * 4
  · rw [List.getElem?_append_left (by omega)]
  · have e5 : (encD.enc t).length = 4 := encD.len t
    rw [List.getElem?_eq_none (by rw [List.length_append, hvl, e5]; omega), List.getElem?_eq_none (by omega)]
abbrev winS : Win := Win.all 64 2
/-- The office, and what was told, in memory. -/
structure PlS (w wx : World) (vo vm : Value) (P : List RP) (o : Plain.Off) (s : List RD) (n k : Nat) : Prop where
  of : OfI (w.heap.size + 1) 0 winS wx vo vm P o k
  tl : wx.rowIs w.heap.size 44 (n * 4) (toldF s)
  bs : ∀ r, r ∈ s → By 0 wx r.p r.c r.d.data
  be : Below w.heap.size w wx
  ow : ∀ q, ownS vo vm q → w.heap.size + 2 ≤ q
namespace PlS
variable {w wx wy : World} {vo vo' vm vm' : Value} {P P' : List RP} {o o' : Plain.Off} {s : List RD} {n k k' : Nat}
theorem start (w : World) (n : Nat) : PlS w ((w.alloc (.cells (madeCells #[.int .i64 0, .int .i64 0, .int .i64 0, .slice none 0 0] (n * 4)) 44)).alloc (.cells #[.slice none 0 0, .map none] 64)) (.slice none 0 0) (.map none) [] Plain.Off.nil [] n 0 := by
  obtain ⟨W1, hW1⟩ : ∃ W1, W1 = w.alloc (.cells (madeCells #[.int .i64 0, .int .i64 0, .int .i64 0, .slice none 0 0] (n * 4)) 44) := ⟨_, rfl⟩
  have h1 : W1.rowIs w.heap.size 44 (n * 4) (toldF []) := by
    rw [hW1]
    refine ⟨_, Deep.blk_alloc_new _ _, size_madeCells _ _, fun i hi => ?_⟩
    have h5 : i % 4 < 4 := Nat.mod_lt _ (by decide)
    have : i % 4 = 0 ∨ i % 4 = 1 ∨ i % 4 = 2 ∨ i % 4 = 3 := by omega
    rcases this with e | e | e | e <;> simp [madeCells, hi, e, toldF, zeroF, Enc.vals]
  have hs : W1.heap.size = w.heap.size + 1 := by rw [hW1]; simp
  have hb : Below w.heap.size w W1 := by rw [hW1]; exact (Below.refl _ _).alloc (Nat.le_refl _) _
  rw [← hW1]
  refine ⟨⟨Win.of_all ?_, World.ownsRow_nil _ _ _ _, fun r hr => (nomatch hr), rfl, .inl ⟨rfl, fun _ _ => rfl⟩, by decide, by decide, by decide⟩, h1.alloc _, fun r hr => (nomatch hr), hb.alloc (by omega) _, fun q hq => ?_⟩
  · have := World.rowIs_alloc W1 #[.slice none 0 0, .map none] 64 (offF (.slice none 0 0) (.map none)) (fun i hi => by
      have hi2 : i < 2 := hi
      have : i = 0 ∨ i = 1 := by omega
      rcases this with rfl | rfl <;> rfl)
    rw [hs] at this
    exact this
  · rcases hq with e | e
    · simp [Value.ownBlock] at e
    · cases e
theorem grow (h : PlS w wx vo vm P o s n k) (g : Below wx.heap.size wx wy) : PlS w wy vo vm P o s n k :=
  ⟨h.of.grow g, h.tl.of_block (g.block _ h.tl.lt), fun r hr => (h.bs r hr).grow g, h.be.trans (g.mono h.be.size), h.ow⟩
/-- Behind a move. -/
theorem order (h : PlS w wx vo vm P o s n k) (of : OfI (w.heap.size + 1) 0 winS wy vo' vm' P' o' k') (g : Kp (ownS vo vm) (w.heap.size + 1) wx wy) (hN : ∀ q, ownS vo' vm' q → ownS vo vm q ∨ wx.heap.size ≤ q) : PlS w wy vo' vm' P' o' s n k' :=
  ⟨of, g.rowIs h.tl (fun e => by have := h.ow _ e; omega) (by omega), fun r hr => (h.bs r hr).keep (h.of.kb g), h.be.trans ⟨g.os, g.tape, g.output, g.size, fun b hb => g.block b (Nat.lt_of_lt_of_le hb h.be.size) (by omega) (fun e => by have := h.ow _ e; omega)⟩, fun q hq => (hN q hq).elim (h.ow q) (fun y => by have := h.of.row.lt; omega)⟩
theorem told (h : PlS w wx vo vm P o s n k) (i : Nat) (hs : s.length = i) (t : RD) (hy : By 0 wx t.p t.c t.d.data) : PlS w (putD wx w.heap.size (i * 4) t) vo vm P o (s ++ [t]) n k := by
  have hvl : (encD.vals s).length = i * 4 := by rw [encD.vals_len, hs]; rfl
  have e := putD_only wx w.heap.size (i * 4) t
  have kb := e.kb h.tl (by decide) (Nat.zero_le _)
  refine ⟨e.off h.of h.tl (by decide) (by decide) (by omega), ?_, fun r hr => ?_, e.below h.be (Nat.le_refl _), h.ow⟩
  · have e5 := (((h.tl.set (i * 4) (.int .i64 (t.d.code : Nat))).set (i * 4 + 1) (.int .i64 t.d.id)).set (i * 4 + 2) (.int .i64 t.d.size)).set (i * 4 + 3) (.slice t.p t.d.data.length t.c)
    exact e5.congr (fun j _ => (toldF_snoc s t i j hvl).symm)
  · rcases List.mem_append.1 hr with m | m
    · exact (h.bs r m).keep kb
    · have e : r = t := by simpa using m
      subst e
      exact hy.keep kb
theorem holds (h : PlS w wx vo vm P o s n k) (hs : s.length = n) : encD.Holds wx (some ⟨w.heap.size, 0, none⟩) s := fun _ => by
  refine ⟨w.heap.size, 0, rfl, h.tl.lt, fun j u hu => ?_⟩
  have hj : j < n * 4 := by
    rcases Nat.lt_or_ge j (n * 4) with x | x
    · exact x
    · rw [List.getElem?_eq_none (by rw [encD.vals_len, hs]; exact x)] at hu; cases hu
  rw [Nat.zero_add, h.tl.cell hj]
  unfold toldF
  rw [List.getD_eq_getElem?_getD, hu]
  rfl
end PlS
end Go.Proofs.Ytiolkeghgodggai.Se
