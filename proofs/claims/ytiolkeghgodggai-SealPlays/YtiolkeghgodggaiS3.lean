/-
  The office in memory: letters that were posted, and a map of how far each way came.
-/
import Derived.Test.YtiolkeghgodggaiS2
import Derived.Test.YtiolkeghgodggaiWn
import Derived.Maps.OwnSet
import Derived.Maps.Views
import Derived.WideKeyPair
import Derived.DeepKeys4
namespace Go.Proofs.Ytiolkeghgodggai.Se
open Go.RowKit Go.Shelf Go.Sort Go.WideMaps Go.Maps

def encP : Enc RP := ⟨3, fun r => [.int .i64 r.y.frm, .int .i64 r.y.to, .slice r.p r.y.data.length r.c], fun _ => rfl, fun a u hu => by
  simp only [List.mem_cons, List.not_mem_nil, or_false] at hu
  rcases hu with rfl | rfl | rfl <;> rfl, by decide⟩
theorem Try.laidOut' : laidOutB Try.prog = true := by kernel_rfl
theorem Try.cellsK : Try.prog.cellsOf 89 = 2 := by kernel_rfl
theorem Try.arrK : ArrKey Try.prog 89 3 2 := ⟨Try.underlying89, by kernel_rfl, by kernel_rfl, Try.cellsK⟩
theorem Try.rowK : (89 : TypeId) < Try.prog.types.size := of_decide_eq_true (by kernel_rfl)
theorem Try.wideK : (match Try.prog.underlying 89 with | some (.array _ _) | some (.struct _) => true | _ => false) = true := by rw [Try.underlying89]
set_option maxRecDepth 100000 in
theorem Try.lawK : KeyLaw Try.prog 89 := deep_law_laid Try.laidOut' (m := 2) (by omega) Try.rowK (by kernel_rfl) Try.wideK
set_option maxRecDepth 100000 in
theorem Try.keyed : Keyed Try.prog 89 := Keyed.of_law Try.lawK
theorem Try.zeroInt (w : World) : (zeroValue 3).run Try.prog w = .ok (.int .i64 0) w := by kernel_rfl
theorem Try.someT : ∃ m, Try.prog.types.size = m + 1 := ⟨_, (Nat.sub_add_cancel (Nat.lt_of_le_of_lt (Nat.zero_le _) Try.rowK)).symm⟩
abbrev keyV (f t : Int) : Value := .agg #[.int .i64 f, .int .i64 t]
def keyL (f t : Int) : Lit := .string (keyBytes [.int .i64 f, .int .i64 t])
theorem wf8 {a : Int} (h : 0 ≤ a ∧ a ≤ 8) : (Lit.int .i64 a).wf = true := by
  have : a = 0 ∨ a = 1 ∨ a = 2 ∨ a = 3 ∨ a = 4 ∨ a = 5 ∨ a = 6 ∨ a = 7 ∨ a = 8 := by omega
  rcases this with rfl | rfl | rfl | rfl | rfl | rfl | rfl | rfl | rfl <;> decide
theorem wfN {a : Nat} (h : a ≤ 100000) : (Lit.int .i64 (a : Int)).wf = true := WalkArith.wf_i64 (by omega)
theorem keyOf_way {f t : Int} (hf : 0 ≤ f ∧ f ≤ 8) (ht : 0 ≤ t ∧ t ≤ 8) : keyOf Try.prog 89 (keyV f t) = some (keyL f t) :=
  keyOf_pair Try.arrK Try.underlying3 Try.someT (wf8 hf) (wf8 ht)
theorem keyL_ne {f t f' t' : Int} (hf : 0 ≤ f ∧ f ≤ 8) (ht : 0 ≤ t ∧ t ≤ 8) (hf' : 0 ≤ f' ∧ f' ≤ 8) (ht' : 0 ≤ t' ∧ t' ≤ 8) (h : ¬ (f = f' ∧ t = t')) : keyL f t ≠ keyL f' t' := fun e => by
  have h1 := keyOf_way hf ht
  have h2 := keyOf_way hf' ht'
  rw [← e] at h2
  have := Try.keyed.inj h1 h2
  simp at this
  exact h this
/-- Block M is a map: of each way a number. -/
def MapI (w : World) (M n : Nat) (g : Int → Int → Nat) : Prop :=
  ∃ D : DataW Unit, w.ownsMap Try.prog 89 (plainElem Try.prog 3) M n D ∧ ∀ f t, (0 ≤ f ∧ f ≤ 8) → (0 ≤ t ∧ t ≤ 8) → D.atKey (keyL f t) (.lit (.int .i64 0)) = .lit (.int .i64 (g f t : Nat))
namespace MapI
variable {w w' : World} {M n : Nat} {g : Int → Int → Nat}
theorem made (w : World) : MapI (w.alloc (.map #[] 0)) w.heap.size 0 (fun _ _ => 0) :=
  ⟨.map [], World.ownsMap_made w _ _ _, fun _ _ _ _ => rfl⟩
theorem mono (h : MapI w M n g) {n' : Nat} (hn : n ≤ n') : MapI w M n' g := by
  obtain ⟨D, h1, h2⟩ := h
  exact ⟨D, h1.mono hn, h2⟩
theorem lt (h : MapI w M n g) : M < w.heap.size := by
  obtain ⟨D, h1, _⟩ := h
  exact h1.lt
theorem of_block (h : MapI w M n g) (e : w'.heap[M]? = w.heap[M]?) : MapI w' M n g := by
  obtain ⟨D, ⟨es, ck, hb, r⟩, h2⟩ := h
  exact ⟨D, ⟨es, ck, e.trans hb, r⟩, h2⟩
theorem congr {g' : Int → Int → Nat} (h : MapI w M n g) (e : ∀ f t, g f t = g' f t) : MapI w M n g' := by
  have : g = g' := funext fun f => funext fun t => e f t
  rw [← this]; exact h
theorem is_map (h : MapI w M n g) : ∃ es ck, w.heap[M]? = some (.map es ck) := by
  obtain ⟨D, ⟨es, ck, hb, r⟩, h2⟩ := h
  exact ⟨es, ck, hb⟩
theorem look (h : MapI w M n g) {f t : Int} (hf : 0 ≤ f ∧ f ≤ 8) (ht : 0 ≤ t ∧ t ≤ 8) : (Instr.lookup 62 (.map (some M)) (keyV f t) false).run Try.prog w = .ok (.int .i64 (g f t : Nat)) w := by
  obtain ⟨D, h1, h2⟩ := h
  obtain ⟨c, hrun, hat, _⟩ := h1.lookup_int Try.keyed Try.underlying62 Try.underlying3 (Try.zeroInt _) (keyOf_way hf ht)
  rw [h2 f t hf ht] at hat
  simp at hat
  rw [hrun, hat]
theorem put (h : MapI w M n g) (hn : n ≤ 100000) {f t : Int} (hf : 0 ≤ f ∧ f ≤ 8) (ht : 0 ≤ t ∧ t ≤ 8) (x : Nat) (hx : x ≤ 100000) :
    ∃ w', (Instr.mapUpdate 62 (.map (some M)) (keyV f t) (.int .i64 (x : Int))).run Try.prog w = .ok () w' ∧ MapI w' M (n + 1) (fun a b => if f = a ∧ t = b then x else g a b) ∧ w.grownBy w' (some M) := by
  obtain ⟨D, h1, h2⟩ := h
  obtain ⟨w', hrun, ho, hg⟩ := h1.update Try.keyed Try.underlying62 (by unfold maxLen; omega) (keyOf_way hf ht) (plainElem_int Try.underlying3 (wfN hx))
  refine ⟨w', hrun, ⟨_, ho, fun a b ha hb => ?_⟩, hg⟩
  dsimp only
  by_cases e : f = a ∧ t = b
  · rw [if_pos e]
    obtain ⟨rfl, rfl⟩ := e
    exact atKey_put_same h1.isMap (by trivial) _ _
  · rw [if_neg e, atKey_put_other (keyL_ne ha hb hf ht (fun x => e ⟨x.1.symm, x.2.symm⟩))]
    exact h2 a b ha hb
end MapI
/-- A map that may not have been made yet: of each way a number. -/
def MapV (w : World) (vm : Value) (n : Nat) (g : Int → Int → Nat) : Prop := (vm = .map none ∧ ∀ f t, g f t = 0) ∨ ∃ M, vm = .map (some M) ∧ MapI w M n g
theorem look_nil {w : World} {f t : Int} (hf : 0 ≤ f ∧ f ≤ 8) (ht : 0 ≤ t ∧ t ≤ 8) : (Instr.lookup 62 (.map none) (keyV f t) false).run Try.prog w = .ok (.int .i64 0) w := by
  have h1 := Try.keyed.check w true (keyOf_way hf ht)
  have h2 : (Instr.findKey 89 (keyV f t) []).run Try.prog w = .ok none w := by
    rcases Try.keyed.find w (keyOf_way hf ht) [] (fun e he => nomatch he) with x | ⟨j, e, _, hj, _⟩
    · exact x.1
    · simp at hj
  simp [Instr.lookup, run_underlying Try.underlying62, h1, h2]
namespace MapV
variable {w w' : World} {vm : Value} {n : Nat} {g : Int → Int → Nat}
theorem mono (h : MapV w vm n g) {n' : Nat} (hn : n ≤ n') : MapV w vm n' g := h.imp id (fun ⟨M, e, x⟩ => ⟨M, e, x.mono hn⟩)
theorem look (h : MapV w vm n g) {f t : Int} (hf : 0 ≤ f ∧ f ≤ 8) (ht : 0 ≤ t ∧ t ≤ 8) : (Instr.lookup 62 vm (keyV f t) false).run Try.prog w = .ok (.int .i64 (g f t : Nat)) w := by
  rcases h with ⟨rfl, h0⟩ | ⟨M, rfl, h⟩
  · rw [look_nil hf ht, h0]; rfl
  · exact h.look hf ht
theorem of_block (h : MapV w vm n g) (e : ∀ M, vm = .map (some M) → w'.heap[M]? = w.heap[M]?) : MapV w' vm n g := h.imp id (fun ⟨M, e1, x⟩ => ⟨M, e1, x.of_block (e M e1)⟩)
theorem congr {g' : Int → Int → Nat} (h : MapV w vm n g) (e : ∀ f t, g f t = g' f t) : MapV w vm n g' := by
  have : g = g' := funext fun f => funext fun t => e f t
  rw [← this]; exact h
theorem is_map (h : MapV w vm n g) {M : Nat} (e : vm = .map (some M)) : ∃ es ck, w.heap[M]? = some (.map es ck) := by
  rcases h with ⟨rfl, _⟩ | ⟨M', rfl, h⟩
  · cases e
  · injection e with e
    injection e with e
    rw [← e]
    exact h.is_map
theorem lt (h : MapV w vm n g) {M : Nat} (e : vm = .map (some M)) : M < w.heap.size := by
  obtain ⟨es, ck, hb⟩ := h.is_map e
  exact (Array.getElem?_eq_some_iff.1 hb).1
end MapV
def offF (vo vm : Value) (j : Nat) : Value := if j = 0 then vo else vm
/-- What is the office's own. -/
def ownS (vo vm : Value) (k : Nat) : Prop := vo.ownBlock = some k ∨ vm = .map (some k)
/-- The office: in a window of two cells. -/
structure OfI (R oo : Nat) (XX : Win) (w : World) (vo vm : Value) (P : List RP) (o : Plain.Off) (n : Nat) : Prop where
  row : w.rowIs R XX.t XX.n (XX.f oo 2 (offF vo vm))
  ow : w.ownsRow 0 83 3 vo P.length (encP.vals P)
  bs : ∀ r, r ∈ P → By 0 w r.p r.c r.y.data
  po : o.posted = P.map RP.y
  mp : MapV w vm n (Plain.nextF o)
  nl : XX.t ≠ 83
  nb : XX.t ≠ 5
  le : oo + 2 ≤ XX.n
namespace OfI
variable {R oo n : Nat} {XX : Win} {w w' : World} {vo vm : Value} {P : List RP} {o : Plain.Off}
theorem own_lt (h : OfI R oo XX w vo vm P o n) {k : Nat} (hk : ownS vo vm k) : k < w.heap.size := by
  rcases hk with e | e
  · rcases h.ow.2 with ⟨rfl, _⟩ | ⟨g', c, cur, rfl, _, hb, _⟩
    · simp [Value.ownBlock] at e
    · simp only [Value.ownBlock, Option.some.injEq] at e
      subst e
      exact (Array.getElem?_eq_some_iff.1 hb).1
  · exact h.mp.lt e
/-- Blocks of bytes are none of it. -/
theorem not_byte (h : OfI R oo XX w vo vm P o n) {k : Nat} {cs : Array Value} {fr : Nat × Nat} (x : w.heap[k]? = some (.cells cs 5 fr)) : k ≠ R ∧ ¬ ownS vo vm k := by
  refine ⟨?_, ?_⟩
  · rintro rfl
    obtain ⟨c', hc, _⟩ := h.row
    rw [hc] at x
    simp at x
    exact h.nb x.2.1
  · rintro (e | e)
    · rcases h.ow.2 with ⟨rfl, _⟩ | ⟨g', c, cur, rfl, _, hb, _⟩
      · simp [Value.ownBlock] at e
      · simp only [Value.ownBlock, Option.some.injEq] at e
        subst e
        rw [hb] at x
        simp at x
    · obtain ⟨es, ck, hb⟩ := h.mp.is_map e
      rw [hb] at x
      cases x
theorem kb (h : OfI R oo XX w vo vm P o n) (k : Kp (ownS vo vm) R w w') : Kb 0 w w' :=
  ⟨k.os, k.tape, k.output, k.size, fun j hj hp => by
    rcases hp with x | ⟨cs, fr, x⟩
    · omega
    · exact k.block j hj (h.not_byte x).1 (h.not_byte x).2⟩
theorem grow (h : OfI R oo XX w vo vm P o n) (g : Below w.heap.size w w') : OfI R oo XX w' vo vm P o n :=
  ⟨h.row.of_block (g.block _ h.row.lt), owns_grow h.ow g, fun r hr => (h.bs r hr).grow g, h.po, h.mp.of_block (fun _ e => g.block _ (h.mp.lt e)), h.nl, h.nb, h.le⟩
theorem drewN (h : OfI R oo XX w vo vm P o n) (q : Nat) : OfI R oo XX (w.drewN q) vo vm P o n := h.grow (below_drewN (Below.refl _ _) q)
theorem mono (h : OfI R oo XX w vo vm P o n) {n' : Nat} (hn : n ≤ n') : OfI R oo XX w vo vm P o n' := ⟨h.row, h.ow, h.bs, h.po, h.mp.mono hn, h.nl, h.nb, h.le⟩
theorem lt (h : OfI R oo XX w vo vm P o n) : R < w.heap.size := h.row.lt
theorem c0 (h : OfI R oo XX w vo vm P o n) : w.cell? ⟨R, oo, none⟩ = some vo := Win.cell h.row h.le (i := 0) (by omega)
theorem c1 (h : OfI R oo XX w vo vm P o n) : w.cell? ⟨R, oo + 1, none⟩ = some vm := Win.cell h.row h.le (i := 1) (by omega)
theorem nown (h : OfI R oo XX w vo vm P o n) : ¬ ownS vo vm R := by
  rintro (e | e)
  · exact row_owns_ne h.row h.ow h.nl e
  · obtain ⟨es, ck, hm⟩ := h.mp.is_map e
    obtain ⟨c', hc, _⟩ := h.row
    rw [hc] at hm
    cases hm
theorem len (h : OfI R oo XX w vo vm P o n) : o.posted.length = P.length := by rw [h.po, List.length_map]
theorem at' (h : OfI R oo XX w vo vm P o n) {k : Nat} (hk : k < P.length) : o.at k = (P.getD k default).y := by
  unfold Plain.Off.at
  rw [h.po, getD_map RP.y P default default hk]
/-- What is laid elsewhere leaves it alone. -/
theorem other (h : OfI R oo XX w vo vm P o n) (hb : ∀ k, k < w.heap.size → (k = R ∨ ownS vo vm k ∨ ∃ cs fr, w.heap[k]? = some (.cells cs 5 fr)) → w'.heap[k]? = w.heap[k]?) (hs : w.heap.size ≤ w'.heap.size) : OfI R oo XX w' vo vm P o n :=
  ⟨h.row.of_block (hb R h.row.lt (.inl rfl)), owns_block h.ow fun b e => hb b (h.own_lt (.inl e)) (.inr (.inl (.inl e))), fun r hr => ⟨(h.bs r hr).le, (h.bs r hr).cm, (h.bs r hr).nl, fun h0 => by
    obtain ⟨b, off, e, hlt, hk, hc⟩ := (h.bs r hr).cl h0
    rcases hk with x | ⟨cs, fr, x⟩
    · omega
    · have e2 := hb b hlt (.inr (.inr ⟨cs, fr, x⟩))
      exact ⟨b, off, e, Nat.lt_of_lt_of_le hlt hs, .inr ⟨cs, fr, e2.trans x⟩, fun j hj => by rw [← hc j hj]; simp only [World.cell?, e2]⟩⟩, h.po, h.mp.of_block (fun M e => hb M (h.mp.lt e) (.inr (.inl (.inr e)))), h.nl, h.nb, h.le⟩
/-- The row of letters, in one form. -/
theorem form (h : OfI R oo XX w vo vm P o n) : ∃ p c, vo = .slice p P.length c ∧ (0 < P.length → ∃ g, p = some ⟨g, 0, none⟩ ∧ g < w.heap.size ∧
    ∀ j, j < P.length → w.cell? ⟨g, j * 3, none⟩ = some (.int .i64 (P.getD j default).y.frm) ∧ w.cell? ⟨g, j * 3 + 1, none⟩ = some (.int .i64 (P.getD j default).y.to) ∧ w.cell? ⟨g, j * 3 + 2, none⟩ = some (.slice (P.getD j default).p (P.getD j default).y.data.length (P.getD j default).c)) := by
  have ho := h.ow
  rcases ho.2 with ⟨rfl, h0⟩ | ⟨g, c, cur, rfl, hg, hb, h1, h2, h3, h4⟩
  · rw [h0]; exact ⟨none, 0, rfl, fun h => by omega⟩
  · refine ⟨_, c, rfl, fun _ => ⟨g, rfl, (Array.getElem?_eq_some_iff.1 hb).1, fun j hj => ?_⟩⟩
    have key : ∀ k u, k < 3 → (encP.enc (P.getD j default))[k]? = some u → w.cell? ⟨g, j * 3 + k, none⟩ = some u := fun k u hk hu => by
      have := ho.cells rfl (j * 3 + k) u (by rw [show j * 3 + k = j * encP.n + k from rfl, encP.vals_at default P j k hj hk]; exact hu)
      rw [add_at', Nat.zero_add] at this
      exact this
    exact ⟨key 0 _ (by decide) rfl, key 1 _ (by decide) rfl, key 2 _ (by decide) rfl⟩
end OfI
theorem Try.infoPo : (Try.prog.info? 83).map (fun i => (i.zero, i.size, i.bytes)) = some (some (.agg #[.int .i64 0, .int .i64 0, .slice none 0 0]), 3, 40) := by kernel_rfl
end Go.Proofs.Ytiolkeghgodggai.Se
