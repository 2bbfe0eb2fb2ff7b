/-
  The document's play of letters, in memory: what was posted, opened and told, each in a row of its own.
-/
import Derived.Test.YtiolkeghgodggaiS9
import Derived.Deep.RegionHeld3
namespace Go.Proofs.Ytiolkeghgodggai.Se
open Go.RowKit Go.Shelf Go.Sort Go.Lib

theorem Try.infoLe : (Try.prog.info? 53).map (fun i => (i.zero, i.size, i.bytes)) = some (some (.agg #[.int .i64 0, .int .i64 0, .int .i64 0, .int .i64 0, .slice none 0 0]), 5, 56) := by kernel_rfl
def encI : Enc Int := ⟨1, fun x => [.int .i64 x], fun _ => rfl, fun a u hu => by
  simp only [List.mem_cons, List.not_mem_nil, or_false] at hu
  subst hu; rfl, by decide⟩
theorem encI_at {l : List Int} {j : Nat} (h : j < l.length) : (encI.vals l)[j]? = some (.int .i64 (l.getD j 0)) := by
  have := encI.vals_at 0 l j 0 h (by decide)
  rw [show j * encI.n + 0 = j by show j * 1 + 0 = j; omega] at this
  rw [this]; rfl
/-- append of one struct onto a row of the call's own. -/
theorem _root_.Go.Proofs.Ytiolkeghgodggai.Enc.snoc {α : Type} {E : Enc α} {W : World} {B n t e bytes : Nat} {i : TypeInfo} {z v : Value} {l : List α} (ht : Try.prog.underlying t = some (.slice e)) (hi : Try.prog.info? e = some i) (hz : i.zero = some z) (hsize : i.size = E.n) (hby : i.bytes = bytes) (hzs : z.cells.size = E.n)
    (hown : W.ownsRow B e E.n v n (E.vals l)) (hn : l.length = n) (hb : n ≤ 1000) (hbytes : (n + 1) * bytes ≤ 140737488355328) (hB : B ≤ W.heap.size) (a : α) :
    ∃ p c U, (Builtin.append_ #[t, t] t #[v, .slice (some ⟨W.heap.size, 0, none⟩) 1 1]).run Try.prog (W.alloc (.cells (E.enc a).toArray e)) = .ok (.slice p (n + 1) c) U ∧ U.ownsRow B e E.n (.slice p (n + 1) c) (n + 1) (E.vals (l ++ [a])) ∧
      (W.alloc (.cells (E.enc a).toArray e)).grownBy U v.ownBlock := by
  have bel : Below W.heap.size W (W.alloc (.cells (E.enc a).toArray e)) := (Below.refl _ _).alloc (Nat.le_refl _) _
  obtain ⟨v', U, h1, h2, h3⟩ := E.app (m := 1) (c := 1) (q := [a]) ht hi hz hsize hby hzs (owns_grow hown bel) (E.one_holds W a e) rfl (fun e => by cases e) (by omega) hbytes (Nat.le_trans hB bel.size)
  obtain ⟨p, c, rfl, _⟩ := E.owns h2 (by rw [List.length_append, hn]; rfl)
  exact ⟨p, c, U, h1, h2, h3⟩
def poR (r : RL) : Plain.Po := ⟨r.x.frm, r.x.to, r.x.data⟩
def opI (o : Plain.Off) : List Int := o.opened.map Int.ofNat
/-- Three rows. -/
structure RI (w W : World) (vp vq vd : Value) (P : List RL) (o : Plain.Off) (D : List RD) : Prop where
  pw : W.ownsRow w.heap.size 53 5 vp P.length (encL.vals P)
  qw : W.ownsRow w.heap.size 3 1 vq o.opened.length (encI.vals (opI o))
  dw : W.ownsRow w.heap.size 44 4 vd D.length (encD.vals D)
  bp : ∀ r, r ∈ P → By w.heap.size W r.p r.c r.x.data
  bd : ∀ r, r ∈ D → By w.heap.size W r.p r.c r.d.data
  po : o.posted = P.map poR
  be : Below w.heap.size w W
namespace RI
variable {w W W' U : World} {vp vq vd : Value} {P : List RL} {o : Plain.Off} {D : List RD}
theorem nil (w : World) : RI w w (.slice none 0 0) (.slice none 0 0) (.slice none 0 0) [] Plain.Off.nil [] :=
  ⟨World.ownsRow_nil _ _ _ _, World.ownsRow_nil _ _ _ _, World.ownsRow_nil _ _ _ _, fun _ h => (nomatch h), fun _ h => (nomatch h), rfl, Below.refl _ _⟩
theorem grow (h : RI w W vp vq vd P o D) (g : Below W.heap.size W W') : RI w W' vp vq vd P o D :=
  ⟨owns_grow h.pw g, owns_grow h.qw g, owns_grow h.dw g, fun r hr => (h.bp r hr).grow g, fun r hr => (h.bd r hr).grow g, h.po, h.be.trans (g.mono h.be.size)⟩
theorem drewN (h : RI w W vp vq vd P o D) (q : Nat) : RI w (W.drewN q) vp vq vd P o D := h.grow (below_drewN (Below.refl _ _) q)
theorem hB (h : RI w W vp vq vd P o D) : w.heap.size ≤ W.heap.size := h.be.size
theorem len (h : RI w W vp vq vd P o D) : o.posted.length = P.length := by rw [h.po, List.length_map]
theorem at' (h : RI w W vp vq vd P o D) {k : Nat} (hk : k < P.length) : o.at k = poR (P.getD k default) := by
  unfold Plain.Off.at
  rw [h.po, getD_map poR P default default hk]
/-- A store into a box of what is told. -/
theorem put {G : Nat} {f : Nat → Value} (h : RI w W vp vq vd P o D) (e : Only1 G W W') (hr : W.rowIs G 44 4 f) (hne : vd.ownBlock ≠ some G) (hB : w.heap.size ≤ G) : RI w W' vp vq vd P o D := by
  have kb := e.kb hr (by decide) hB
  refine ⟨owns_block h.pw fun b hb => e.block b (fun x => row_owns_ne hr h.pw (by decide) (by rw [hb, x])), owns_block h.qw fun b hb => e.block b (fun x => row_owns_ne hr h.qw (by decide) (by rw [hb, x])),
    owns_block h.dw fun b hb => e.block b (fun x => hne (by rw [hb, x])), fun r hr => (h.bp r hr).keep kb, fun r hr => (h.bd r hr).keep kb, h.po, e.below h.be hB⟩
theorem ne_of {e1 e2 s1 s2 n1 n2 : Nat} {v1 v2 : Value} {x1 x2 : List Value} {B1 B2 : Nat} (h1 : W.ownsRow B1 e1 s1 v1 n1 x1) (h2 : W.ownsRow B2 e2 s2 v2 n2 x2) (hne : e1 ≠ e2) : v1.ownBlock = none ∨ v1.ownBlock ≠ v2.ownBlock := by
  cases h : v1.ownBlock with
  | none => exact .inl rfl
  | some b => exact .inr (fun x => owns_apart h1 h2 hne h x.symm)
/-- A letter more. -/
theorem snocP (h : RI w W vp vq vd P o D) (hb : P.length ≤ 1000) (y : RL) (hy : By w.heap.size W y.p y.c y.x.data) :
    ∃ p c U, (Builtin.append_ #[38, 38] 38 #[vp, .slice (some ⟨W.heap.size, 0, none⟩) 1 1]).run Try.prog (W.alloc (.cells (encL.enc y).toArray 53)) = .ok (.slice p (P.length + 1) c) U ∧
      RI w U (.slice p (P.length + 1) c) vq vd (P ++ [y]) { o with posted := o.posted ++ [poR y] } D ∧ (∀ b t n f, W.rowIs b t n f → t ≠ 53 → U.rowIs b t n f) ∧ (∀ k, k < W.heap.size → vp.ownBlock ≠ some k → U.heap[k]? = W.heap[k]?) := by
  obtain ⟨j0, ji, jz0, jz1, jz2⟩ := info_parts Try.infoLe
  obtain ⟨p, c, U, h1, h2, h3⟩ := Enc.snoc (E := encL) Try.underlying38 ji jz0 jz1 jz2 rfl h.pw rfl hb (by omega) h.hB y
  have bel : Below W.heap.size W (W.alloc (.cells (encL.enc y).toArray 53)) := (Below.refl _ _).alloc (Nat.le_refl _) _
  have k1 := h.grow bel
  have kb : Kb w.heap.size W U := (Kb.of_below bel).trans (Kb.grown k1.pw (by decide) h3)
  have hlen : (P ++ [y]).length = P.length + 1 := by simp
  refine ⟨p, c, U, h1, ⟨by rw [hlen]; exact h2, k1.qw.kept h3 (ne_of k1.qw k1.pw (by decide)), k1.dw.kept h3 (ne_of k1.dw k1.pw (by decide)), fun r hr => ?_, fun r hr => (h.bd r hr).keep kb, ?_, h.be.trans (kb.below h.hB)⟩, fun b t n f hr ht => grow_bx (hr.of_block (bel.block _ hr.lt)) k1.pw ht h3, fun k hk hv => (h3.block k (Nat.lt_of_lt_of_le hk bel.size) (fun e => hv e.symm)).trans (bel.block k hk)⟩
  · rcases List.mem_append.1 hr with m | m
    · exact (h.bp r m).keep kb
    · have e : r = y := by simpa using m
      subst e
      exact hy.keep kb
  · show o.posted ++ [poR y] = _
    rw [h.po, List.map_append]; rfl
/-- One opened more. -/
theorem snocQ (h : RI w W vp vq vd P o D) (hb : o.opened.length ≤ 1000) (k : Nat) :
    ∃ p c U, (Builtin.append_ #[51, 51] 51 #[vq, .slice (some ⟨W.heap.size, 0, none⟩) 1 1]).run Try.prog (W.alloc (.cells #[.int .i64 (k : Int)] 3)) = .ok (.slice p (o.opened.length + 1) c) U ∧
      RI w U vp (.slice p (o.opened.length + 1) c) vd P { o with opened := o.opened ++ [k] } D ∧ (∀ b t n f, W.rowIs b t n f → t ≠ 3 → U.rowIs b t n f) ∧ (∀ (X : Nat) (cs : Array Value) (t : TypeId) (fr : Nat × Nat), W.heap[X]? = some (.cells cs t fr) → t ≠ 3 → U.heap[X]? = W.heap[X]?) := by
  obtain ⟨j0, ji, jz0, jz1, jz2⟩ := info_parts Try.infoInt
  obtain ⟨p, c, U, h1, h2, h3⟩ := Enc.snoc (E := encI) Try.underlying51 ji jz0 jz1 jz2 rfl h.qw (by simp [opI]) hb (by omega) h.hB (k : Int)
  have bel : Below W.heap.size W (W.alloc (.cells (encI.enc (k : Int)).toArray 3)) := (Below.refl _ _).alloc (Nat.le_refl _) _
  have k1 := h.grow bel
  have kb : Kb w.heap.size W U := (Kb.of_below bel).trans (Kb.grown k1.qw (by decide) h3)
  refine ⟨p, c, U, h1, ⟨k1.pw.kept h3 (ne_of k1.pw k1.qw (by decide)), ?_, k1.dw.kept h3 (ne_of k1.dw k1.qw (by decide)), fun r hr => (h.bp r hr).keep kb, fun r hr => (h.bd r hr).keep kb, h.po, h.be.trans (kb.below h.hB)⟩, fun b t n f hr ht => grow_bx (hr.of_block (bel.block _ hr.lt)) k1.qw ht h3, ?_⟩
  · have e : opI { o with opened := o.opened ++ [k] } = opI o ++ [(k : Int)] := by simp [opI]
    rw [e]
    show U.ownsRow _ _ _ _ (o.opened ++ [k]).length _
    rw [List.length_append]
    exact h2
  · intro X cs t fr hX ht
    have hlt : X < W.heap.size := (Array.getElem?_eq_some_iff.1 hX).1
    exact (h3.block X (Nat.lt_of_lt_of_le hlt bel.size) (fun x => by
      rcases k1.qw.2 with ⟨rfl, _⟩ | ⟨g', c', cur, rfl, _, hb', _⟩
      · simp [Value.ownBlock] at x
      · simp only [Value.ownBlock, Option.some.injEq] at x
        subst x
        rw [bel.block _ hlt, hX] at hb'
        simp at hb'
        exact ht hb'.2.1)).trans (bel.block _ hlt)
/-- One told more. -/
theorem snocD (h : RI w W vp vq vd P o D) (hb : D.length ≤ 1000) (y : RD) (hy : By w.heap.size W y.p y.c y.d.data) :
    ∃ p c U, (Builtin.append_ #[39, 39] 39 #[vd, .slice (some ⟨W.heap.size, 0, none⟩) 1 1]).run Try.prog (W.alloc (.cells (encD.enc y).toArray 44)) = .ok (.slice p (D.length + 1) c) U ∧
      RI w U vp vq (.slice p (D.length + 1) c) P o (D ++ [y]) := by
  obtain ⟨j0, ji, jz0, jz1, jz2⟩ := info_parts Try.infoOd
  obtain ⟨p, c, U, h1, h2, h3⟩ := Enc.snoc (E := encD) Try.underlying39 ji jz0 jz1 jz2 rfl h.dw rfl hb (by omega) h.hB y
  have bel : Below W.heap.size W (W.alloc (.cells (encD.enc y).toArray 44)) := (Below.refl _ _).alloc (Nat.le_refl _) _
  have k1 := h.grow bel
  have kb : Kb w.heap.size W U := (Kb.of_below bel).trans (Kb.grown k1.dw (by decide) h3)
  have hlen : (D ++ [y]).length = D.length + 1 := by simp
  refine ⟨p, c, U, h1, ⟨k1.pw.kept h3 (ne_of k1.pw k1.dw (by decide)), k1.qw.kept h3 (ne_of k1.qw k1.dw (by decide)), by rw [hlen]; exact h2, fun r hr => (h.bp r hr).keep kb, fun r hr => ?_, h.po, h.be.trans (kb.below h.hB)⟩⟩
  rcases List.mem_append.1 hr with m | m
  · exact (h.bd r m).keep kb
  · have e : r = y := by simpa using m
    subst e
    exact hy.keep kb
theorem atP {gb off m cp j : Nat} (h : RI w W (.slice (some ⟨gb, off, none⟩) m cp) vq vd P o D) (hj : j < P.length) : CellL W gb (off + j * 5) (P.getD j default) := by
  obtain ⟨pp, c, e, hh, _, _⟩ := encL.owns h.pw rfl
  injection e with e _ _
  subst e
  obtain ⟨b, o', e2, _, hc⟩ := holdsL hh (by omega)
  injection e2 with e2
  injection e2 with ea eb
  subst ea eb
  exact hc j hj
theorem atQ {gq oq m cq i : Nat} (h : RI w W vp (.slice (some ⟨gq, oq, none⟩) m cq) vd P o D) (hi : i < o.opened.length) : W.cell? ⟨gq, oq + i, none⟩ = some (.int .i64 ((o.opened.getD i 0 : Nat) : Int)) := by
  have hl : (opI o).length = o.opened.length := by simp [opI]
  obtain ⟨pq, c, e, hh, _, _⟩ := encI.owns h.qw hl
  injection e with e _ _
  subst e
  obtain ⟨b, o', e2, _, hc⟩ := hh (by omega)
  injection e2 with e2
  injection e2 with ea eb
  subst ea eb
  rw [hc i _ (encI_at (by rw [hl]; exact hi))]
  have : (opI o).getD i 0 = ((o.opened.getD i 0 : Nat) : Int) := by
    unfold opI
    rw [getD_map Int.ofNat o.opened 0 0 hi]; rfl
  rw [this]
theorem someQ {pq : Option Addr} {m cq : Nat} (h : RI w W vp (.slice pq m cq) vd P o D) (h0 : 0 < o.opened.length) : ∃ g, pq = some ⟨g, 0, none⟩ := by
  have hl : (opI o).length = o.opened.length := by simp [opI]
  obtain ⟨pq', c, e, _, _, hh⟩ := encI.owns h.qw hl
  injection e with e _ _
  subst e
  obtain ⟨g, hg, _⟩ := hh h0
  exact ⟨g, hg⟩
theorem someP {pp : Option Addr} {m cp : Nat} (h : RI w W (.slice pp m cp) vq vd P o D) (h0 : 0 < P.length) : ∃ g, pp = some ⟨g, 0, none⟩ := by
  obtain ⟨pp', c, e, _, _, hh⟩ := encL.owns h.pw rfl
  injection e with e _ _
  subst e
  obtain ⟨g, hg, _⟩ := hh h0
  exact ⟨g, hg⟩
/-- The three rows, in one form. -/
theorem forms (h : RI w W vp vq vd P o D) : ∃ pp cp pq cq pd cd, vp = .slice pp P.length cp ∧ vq = .slice pq o.opened.length cq ∧ vd = .slice pd D.length cd ∧ encL.Holds W pp P ∧ encD.Holds W pd D ∧
    (0 < o.opened.length → ∃ g, pq = some ⟨g, 0, none⟩ ∧ g < W.heap.size ∧ ∀ j, j < o.opened.length → W.cell? ⟨g, j, none⟩ = some (.int .i64 ((opI o).getD j 0))) := by
  obtain ⟨pp, cp, e1, h1, _, _⟩ := encL.owns h.pw rfl
  obtain ⟨pd, cd, e3, h3, _, _⟩ := encD.owns h.dw rfl
  have hl : (opI o).length = o.opened.length := by simp [opI]
  obtain ⟨pq, cq, e2, h2, _, h2'⟩ := encI.owns h.qw hl
  refine ⟨pp, cp, pq, cq, pd, cd, e1, e2, e3, h1, h3, fun h0 => ?_⟩
  obtain ⟨g, rfl, _⟩ := h2' h0
  obtain ⟨b, off, e, hb, hc⟩ := h2 (by rw [hl]; exact h0)
  injection e with e
  injection e with ea eb
  subst ea eb
  exact ⟨g, rfl, hb, fun j hj => by have := hc j _ (encI_at (by rw [hl]; exact hj)); rw [Nat.zero_add] at this; exact this⟩
end RI
/-- The rows, the move in its box and what it came to in another one. -/
structure XI (w W : World) (X : Nat) (vp vq vd : Value) (P : List RL) (o : Plain.Off) (D : List RD) (r : RL) (t : RD) : Prop where
  ri : RI w W vp vq vd P o D
  xb : CellL W X 0 r
  xt : ∃ cs fr, W.heap[X]? = some (.cells cs 53 fr)
  rb : W.rowIs (X + 1) 44 4 (odF t)
  ne : vd.ownBlock ≠ some (X + 1)
  nx : vp.ownBlock ≠ some X
  hX : w.heap.size ≤ X
namespace XI
variable {w W W' : World} {X : Nat} {vp vq vd : Value} {P : List RL} {o : Plain.Off} {D : List RD} {r : RL} {t : RD}
theorem start' (h : RI w W vp vq vd P o D) (r : RL) (t : RD) : XI w ((W.alloc (boxL r)).alloc (.cells (encD.enc t).toArray 44)) W.heap.size vp vq vd P o D r t := by
  have b1 : Below W.heap.size W (W.alloc (boxL r)) := (Below.refl _ _).alloc (Nat.le_refl _) _
  have b2 : Below (W.alloc (boxL r)).heap.size (W.alloc (boxL r)) ((W.alloc (boxL r)).alloc (.cells (encD.enc t).toArray 44)) := (Below.refl _ _).alloc (Nat.le_refl _) _
  have hs : (W.alloc (boxL r)).heap.size = W.heap.size + 1 := by simp
  have hr := rowD_new (W.alloc (boxL r)) t
  rw [hs] at hr
  refine ⟨(h.grow b1).grow b2, ?_, ⟨_, (0, 0), (b2.block W.heap.size (by omega)).trans (Deep.blk_alloc_new W _)⟩, hr, fun e => ?_, fun e => ?_, h.hB⟩
  · have hc : CellL (W.alloc (boxL r)) W.heap.size 0 r := by
      refine ⟨?_, ?_, ?_, ?_, ?_⟩ <;> rw [World.cell?_alloc_at _ _ _ _ rfl] <;> rfl
    exact hc.below b2 (by omega)
  · have := (h.dw.lt _ e).2
    omega
  · have := (h.pw.lt _ e).2
    omega
theorem start (h : RI w W vp vq vd P o D) (r : RL) : XI w ((W.alloc (boxL r)).alloc zeroD) W.heap.size vp vq vd P o D r ⟨⟨0, 0, 0, []⟩, none, 0⟩ := start' h r ⟨⟨0, 0, 0, []⟩, none, 0⟩
theorem grow (h : XI w W X vp vq vd P o D r t) (g : Below W.heap.size W W') : XI w W' X vp vq vd P o D r t := by
  obtain ⟨cs, fr, hx⟩ := h.xt
  have hlt : X < W.heap.size := (Array.getElem?_eq_some_iff.1 hx).1
  exact ⟨h.ri.grow g, h.xb.below g hlt, ⟨cs, fr, (g.block X hlt).trans hx⟩, h.rb.of_block (g.block _ h.rb.lt), h.ne, h.nx, h.hX⟩
theorem drewN (h : XI w W X vp vq vd P o D r t) (q : Nat) : XI w (W.drewN q) X vp vq vd P o D r t := h.grow (below_drewN (Below.refl _ _) q)
theorem lt (h : XI w W X vp vq vd P o D r t) : X < W.heap.size := by
  obtain ⟨cs, fr, hx⟩ := h.xt
  exact (Array.getElem?_eq_some_iff.1 hx).1
theorem of_keep (h : XI w W X vp vq vd P o D r t) (e : W'.heap[X]? = W.heap[X]?) : CellL W' X 0 r := by
  obtain ⟨c0, c1, c2, c3, c4⟩ := h.xb
  refine ⟨?_, ?_, ?_, ?_, ?_⟩
  · rw [← c0]; simp only [World.cell?, e]
  · rw [← c1]; simp only [World.cell?, e]
  · rw [← c2]; simp only [World.cell?, e]
  · rw [← c3]; simp only [World.cell?, e]
  · rw [← c4]; simp only [World.cell?, e]
/-- What it came to, written anew. -/
theorem put {t' : RD} (h : XI w W X vp vq vd P o D r t) (e : Only1 (X + 1) W W') (hr : W'.rowIs (X + 1) 44 4 (odF t')) : XI w W' X vp vq vd P o D r t' := by
  obtain ⟨cs, fr, hx⟩ := h.xt
  have hb := e.block X (by omega)
  obtain ⟨c0, c1, c2, c3, c4⟩ := h.xb
  refine ⟨h.ri.put e h.rb h.ne (by have := h.hX; omega), ⟨?_, ?_, ?_, ?_, ?_⟩, ⟨cs, fr, hb.trans hx⟩, hr, h.ne, h.nx, h.hX⟩
  · rw [← c0]; simp only [World.cell?, hb]
  · rw [← c1]; simp only [World.cell?, hb]
  · rw [← c2]; simp only [World.cell?, hb]
  · rw [← c3]; simp only [World.cell?, hb]
  · rw [← c4]; simp only [World.cell?, hb]
/-- One opened more. -/
theorem snocQ (h : XI w W X vp vq vd P o D r t) (hb : o.opened.length ≤ 1000) (k : Nat) :
    ∃ p c U, (Builtin.append_ #[51, 51] 51 #[vq, .slice (some ⟨W.heap.size, 0, none⟩) 1 1]).run Try.prog (W.alloc (.cells #[.int .i64 (k : Int)] 3)) = .ok (.slice p (o.opened.length + 1) c) U ∧
      XI w U X vp (.slice p (o.opened.length + 1) c) vd P { o with opened := o.opened ++ [k] } D r t := by
  obtain ⟨p, c, U, h1, h2, h3, h4⟩ := h.ri.snocQ hb k
  obtain ⟨cs, fr, hx⟩ := h.xt
  have e := h4 X cs _ fr hx (by decide)
  exact ⟨p, c, U, h1, ⟨h2, h.of_keep e, ⟨cs, fr, e.trans hx⟩, h3 _ _ _ _ h.rb (by decide), h.ne, h.nx, h.hX⟩⟩
theorem code (h : XI w W X vp vq vd P o D r t) (E : Nat) : XI w (W.setCell ⟨X + 1, 0, none⟩ (.int .i64 (E : Nat))) X vp vq vd P o D r { t with d := { t.d with code := E } } := by
  refine h.put (Only1.set _ _ _) ((h.rb.set 0 _).congr fun j hj => ?_)
  have : j = 0 ∨ j = 1 ∨ j = 2 ∨ j = 3 := by omega
  rcases this with rfl | rfl | rfl | rfl <;> rfl
theorem id (h : XI w W X vp vq vd P o D r t) (i : Int) : XI w (W.setCell ⟨X + 1, 1, none⟩ (.int .i64 i)) X vp vq vd P o D r { t with d := { t.d with id := i } } := by
  refine h.put (Only1.set _ _ _) ((h.rb.set 1 _).congr fun j hj => ?_)
  have : j = 0 ∨ j = 1 ∨ j = 2 ∨ j = 3 := by omega
  rcases this with rfl | rfl | rfl | rfl <;> rfl
theorem size (h : XI w W X vp vq vd P o D r t) (i : Int) : XI w (W.setCell ⟨X + 1, 2, none⟩ (.int .i64 i)) X vp vq vd P o D r { t with d := { t.d with size := i } } := by
  refine h.put (Only1.set _ _ _) ((h.rb.set 2 _).congr fun j hj => ?_)
  have : j = 0 ∨ j = 1 ∨ j = 2 ∨ j = 3 := by omega
  rcases this with rfl | rfl | rfl | rfl <;> rfl
theorem all (h : XI w W X vp vq vd P o D r t) (t' : RD) : XI w (putD W (X + 1) 0 t') X vp vq vd P o D r t' :=
  h.put (putD_only _ _ _ _) (putD_row h.rb t')
end XI
end Go.Proofs.Ytiolkeghgodggai.Se
