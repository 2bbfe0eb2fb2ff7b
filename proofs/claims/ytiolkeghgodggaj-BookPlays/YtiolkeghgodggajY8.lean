/-
  book.Play: calls, one by one, at a broker who has nothing.
-/
import Derived.Test.YtiolkeghgodggajYn
import Derived.Deep.DeepCutAuto
import Derived.Deep.CutBlock
namespace Go.Proofs.Ytiolkeghgodggaj.Bo
open Go.RowKit Go.Shelf Go.Sort

theorem Try.infoRu : (Try.prog.info? 44).map (fun i => (i.zero, i.size, i.bytes)) = some (some (.agg #[.int .i64 0, .slice none 0 0, .int .i64 0]), 3, 40) := by kernel_rfl
def zeroF (j : Nat) : Value := if j % 3 = 1 then .slice none 0 0 else .int .i64 0
def toldF (s : List RU) (j : Nat) : Value := (encU.vals s).getD j (zeroF j)
theorem toldF_snoc (s : List RU) (t : RU) (k j : Nat) (hvl : (encU.vals s).length = k * 3) : toldF (s ++ [t]) j = if j = k * 3 + 2 then .int .i64 t.d.report else if j = k * 3 + 1 then .slice t.p t.d.grants.length t.c else if j = k * 3 then .int .i64 (t.d.code : Nat) else toldF s j := by
  unfold toldF
  rw [encU.vals_app, encU.vals_one, List.getD_eq_getElem?_getD, List.getD_eq_getElem?_getD]
  by_cases h2 : j = k * 3 + 2
  · subst h2
    rw [if_pos rfl, List.getElem?_append_right (by omega), hvl, show k * 3 + 2 - k * 3 = 2 by omega, show (encU.enc t)[2]? = some (.int .i64 t.d.report) from rfl]
    rfl
  rw [if_neg h2]
  by_cases h1 : j = k * 3 + 1
  · subst h1
    rw [if_pos rfl, List.getElem?_append_right (by omega), hvl, show k * 3 + 1 - k * 3 = 1 by omega, show (encU.enc t)[1]? = some (.slice t.p t.d.grants.length t.c) from rfl]
    rfl
  rw [if_neg h1]
  by_cases h0 : j = k * 3
  · subst h0
    rw [if_pos rfl, List.getElem?_append_right (by omega), hvl, show k * 3 - k * 3 = 0 by omega, show (encU.enc t)[0]? = some (.int .i64 (t.d.code : Nat)) from rfl]
    rfl
  rw [if_neg h0]
  by_cases hlt : j < k * 3
  · rw [List.getElem?_append_left (by omega)]
  · have e5 : (encU.enc t).length = 3 := encU.len t
    rw [List.getElem?_eq_none (by rw [List.length_append, hvl, e5]; omega), List.getElem?_eq_none (by omega)]
abbrev winB : Win := Win.all 62 8
/-- The broker, and what was told, in memory. -/
structure PlB (w wx : World) (T R A G : Nat) (vl : Value) (b : Plain.Bk) (s : List RU) (n N : Nat) : Prop where
  bk : BkI w.heap.size R 0 winB A G wx vl b N
  tl : wx.rowIs T 44 (n * 3) (toldF s)
  bs : ∀ r, r ∈ s → Ns (fun k => Fb R A G vl k ∨ k = T) wx r.p r.c r.d.grants
  be : Below w.heap.size w wx
  nt : ¬ Fb R A G vl T
  gt : w.heap.size ≤ T
namespace PlB
variable {w wx wy : World} {T R A G : Nat} {vl vl' : Value} {b b' : Plain.Bk} {s : List RU} {n N N' : Nat}
theorem told0 (w : World) (n : Nat) : (w.alloc (.cells (madeCells #[.int .i64 0, .slice none 0 0, .int .i64 0] (n * 3)) 44)).rowIs w.heap.size 44 (n * 3) (toldF []) := by
  refine ⟨_, Deep.blk_alloc_new _ _, size_madeCells _ _, fun i hi => ?_⟩
  have h5 : i % 3 < 3 := Nat.mod_lt _ (by decide)
  have : i % 3 = 0 ∨ i % 3 = 1 ∨ i % 3 = 2 := by omega
  rcases this with e | e | e <;> simp [madeCells, hi, e, toldF, zeroF, Enc.vals]
theorem grow (h : PlB w wx T R A G vl b s n N) (g : Below wx.heap.size wx wy) : PlB w wy T R A G vl b s n N :=
  ⟨h.bk.grow g, h.tl.of_block (g.block _ h.tl.lt), fun r hr => (h.bs r hr).grow g, h.be.trans (g.mono h.be.size), h.nt, h.gt⟩
/-- Behind a call. -/
theorem call (h : PlB w wx T R A G vl b s n N) (bk : BkI w.heap.size R 0 winB A G wy vl' b' N') (un : Un (Fb R A G vl) wx wy) (hf : ∀ k, k < wx.heap.size → Fb R A G vl' k → Fb R A G vl k) : PlB w wy T R A G vl' b' s n N' := by
  refine ⟨bk, h.tl.of_block (un.block _ h.tl.lt h.nt), fun r hr => ?_, h.be.trans (un.below h.be.size (fun k x => h.bk.ge k x)), fun x => h.nt (hf T h.tl.lt x), h.gt⟩
  obtain ⟨nl, cl⟩ := h.bs r hr
  refine ⟨nl, fun h0 => ?_⟩
  obtain ⟨b, off, e, hb, hk, hc⟩ := cl h0
  have e2 := un.block b hb (fun x => hk (.inl x))
  refine ⟨b, off, e, Nat.lt_of_lt_of_le hb un.size, fun x => hk (x.imp (hf b hb) id), fun j hj => ?_⟩
  rw [← hc j hj]
  simp only [World.cell?, e2]
theorem told (h : PlB w wx T R A G vl b s n N) (i : Nat) (hs : s.length = i) (t : RU) (hy : Ns (fun k => Fb R A G vl k ∨ k = T) wx t.p t.c t.d.grants) : PlB w (putU wx T (i * 3) t) T R A G vl b (s ++ [t]) n N := by
  have hvl : (encU.vals s).length = i * 3 := by rw [encU.vals_len, hs]; rfl
  have up := putU_un (F := (· = T)) wx T (i * 3) t rfl
  have lv : ∀ j, j < wx.heap.size → j ≠ T → (putU wx T (i * 3) t).heap[j]? = wx.heap[j]? := fun j hj hne => up.block j hj hne
  have hne : ∀ k, Fb R A G vl k → k ≠ T := fun k hk e => h.nt (by rw [← e]; exact hk)
  have ks : ∀ {p c l}, Ns (fun k => Fb R A G vl k ∨ k = T) wx p c l → Ns (fun k => Fb R A G vl k ∨ k = T) (putU wx T (i * 3) t) p c l := fun hh => hh.keep (putU_un wx T (i * 3) t (.inr rfl)) (fun _ _ x => x)
  refine ⟨⟨h.bk.row.of_block (lv R h.bk.row.lt (hne _ (.inl rfl))), h.bk.ra.of_block (lv A h.bk.ra.lt (hne _ (.inr (.inl rfl)))), h.bk.rg.of_block (lv G h.bk.rg.lt (hne _ (.inr (.inr (.inl rfl))))), h.bk.ok, h.bk.n1, h.bk.n8, h.bk.rd, ?_, h.bk.hR, h.bk.hA, h.bk.hG, h.bk.RA, h.bk.RG, h.bk.AG, h.bk.tk, h.bk.le⟩, ?_, fun r hr => ?_, h.be.trans (up.below h.be.size (fun k x => by rw [x]; exact h.gt)), h.nt, h.gt⟩
  · rcases h.bk.lv with x | ⟨L, x1, x2, x3⟩
    · exact .inl x
    · exact .inr ⟨L, x1, x2.of_block (lv L x2.lt (hne _ (.inr (.inr (.inr (by rw [x1]; rfl)))))), x3⟩
  · have e5 := ((h.tl.set (i * 3) (.int .i64 (t.d.code : Nat))).set (i * 3 + 1) (.slice t.p t.d.grants.length t.c)).set (i * 3 + 2) (.int .i64 t.d.report)
    exact e5.congr (fun j _ => (toldF_snoc s t i j hvl).symm)
  · rcases List.mem_append.1 hr with m | m
    · exact ks (h.bs r m)
    · have e : r = t := by simpa using m
      subst e
      exact ks hy
theorem holds (h : PlB w wx T R A G vl b s n N) (hs : s.length = n) : encU.Holds wx (some ⟨T, 0, none⟩) s := fun _ => by
  refine ⟨T, 0, rfl, h.tl.lt, fun j u hu => ?_⟩
  have hj : j < n * 3 := by
    rcases Nat.lt_or_ge j (n * 3) with x | x
    · exact x
    · rw [List.getElem?_eq_none (by rw [encU.vals_len, hs]; exact x)] at hu; cases hu
  rw [Nat.zero_add, h.tl.cell hj]
  unfold toldF
  rw [List.getD_eq_getElem?_getD, hu]
  rfl
end PlB
/-- What playing calls leaves: the same of the program and of the document. -/
def PlayP (bn mo ti : Int) (l : List Plain.Ca) (w : World) (e : Ending) (w' : World) : Prop :=
  ∃ q c D, e = .returned (.tuple #[.slice q (List.length D) c, .int .i64 (Plain.bookE bn mo ti l : Nat)]) ∧ D.map RU.d = Plain.bookV bn mo ti l ∧ An w' q D ∧ Below w.heap.size w w'
theorem playP_no {bn mo ti : Int} {l : List Plain.Ca} {E : Nat} (hE : Plain.bookE bn mo ti l = E) (h0 : E ≠ 0) (w w' : World) (b : Below w.heap.size w w') : PlayP bn mo ti l w (.returned (.tuple #[.slice none 0 0, .int .i64 (E : Nat)])) w' := by
  refine ⟨none, 0, [], ?_, ?_, ⟨Enc.Holds.nil _ _, fun r hr => (nomatch hr)⟩, b⟩
  · rw [hE]; rfl
  · unfold Plain.bookV; rw [hE, if_pos h0]; rfl
theorem playP_yes {bn mo ti : Int} {l : List Plain.Ca} {n : Nat} (hn : l.length = n) (hE : Plain.bookE bn mo ti l = 0) {w w' : World} (b : Below w.heap.size w w') {q : Option Addr} {c : Nat} {D : List RU} (hD : D.map RU.d = Plain.bookF (Plain.Bk.new bn.toNat mo ti.toNat) l) (ha : An w' q D) : PlayP bn mo ti l w (.returned (.tuple #[.slice q n c, .int .i64 0])) w' := by
  have h2 : D.length = n := by
    have := congrArg List.length hD
    rw [List.length_map, Plain.bookF_len, hn] at this
    exact this
  refine ⟨q, c, D, ?_, ?_, ha, b⟩
  · rw [hE, h2]; rfl
  · unfold Plain.bookV; rw [hE, if_neg (by decide)]; exact hD
end Go.Proofs.Ytiolkeghgodggaj.Bo
