/-
  The office in memory: letters that were posted, and a map of how far each way came.
-/
import Derived.Test.YtceikadhkbjdpaiS2
import Derived.Maps.OwnSet
import Derived.Maps.Views
import Derived.WideKeyPair
import Derived.DeepKeys4
namespace Go.Proofs.Ytceikadhkbjdpai
open Go.RowKit Go.Shelf Go.Sort Go.WideMaps Go.Maps

def encP : Enc RP := ⟨3, fun r => [.int .i64 r.y.frm, .int .i64 r.y.to, .slice r.p r.y.data.length r.c], fun _ => rfl, fun a u hu => by
  simp only [List.mem_cons, List.not_mem_nil, or_false] at hu
  rcases hu with rfl | rfl | rfl <;> rfl, by decide⟩
theorem Try.laidOut' : laidOutB Try.prog = true := by kernel_rfl
theorem Try.cellsK : Try.prog.cellsOf 88 = 2 := by kernel_rfl
theorem Try.arrK : ArrKey Try.prog 88 3 2 := ⟨Try.underlying88, by kernel_rfl, by kernel_rfl, Try.cellsK⟩
theorem Try.rowK : (88 : TypeId) < Try.prog.types.size := of_decide_eq_true (by kernel_rfl)
theorem Try.wideK : (match Try.prog.underlying 88 with | some (.array _ _) | some (.struct _) => true | _ => false) = true := by rw [Try.underlying88]
theorem Try.lawK : KeyLaw Try.prog 88 := deep_law_laid Try.laidOut' (m := 2) (by omega) Try.rowK (by kernel_rfl) Try.wideK
theorem Try.keyed : Keyed Try.prog 88 := Keyed.of_law Try.lawK
theorem Try.zeroInt (w : World) : (zeroValue 3).run Try.prog w = .ok (.int .i64 0) w := by kernel_rfl
theorem Try.someT : ∃ m, Try.prog.types.size = m + 1 := ⟨_, (Nat.sub_add_cancel (Nat.lt_of_le_of_lt (Nat.zero_le _) Try.rowK)).symm⟩
abbrev keyV (f t : Int) : Value := .agg #[.int .i64 f, .int .i64 t]
def keyL (f t : Int) : Lit := .string (keyBytes [.int .i64 f, .int .i64 t])
theorem wf8 {a : Int} (h : 0 ≤ a ∧ a ≤ 8) : (Lit.int .i64 a).wf = true := by
  have : a = 0 ∨ a = 1 ∨ a = 2 ∨ a = 3 ∨ a = 4 ∨ a = 5 ∨ a = 6 ∨ a = 7 ∨ a = 8 := by omega
  rcases this with rfl | rfl | rfl | rfl | rfl | rfl | rfl | rfl | rfl <;> decide
theorem wfN {a : Nat} (h : a ≤ 1000) : (Lit.int .i64 (a : Int)).wf = true := WalkArith.wf_i64 (by omega)
theorem keyOf_way {f t : Int} (hf : 0 ≤ f ∧ f ≤ 8) (ht : 0 ≤ t ∧ t ≤ 8) : keyOf Try.prog 88 (keyV f t) = some (keyL f t) :=
  keyOf_pair Try.arrK Try.underlying3 Try.someT (wf8 hf) (wf8 ht)
theorem keyL_ne {f t f' t' : Int} (hf : 0 ≤ f ∧ f ≤ 8) (ht : 0 ≤ t ∧ t ≤ 8) (hf' : 0 ≤ f' ∧ f' ≤ 8) (ht' : 0 ≤ t' ∧ t' ≤ 8) (h : ¬ (f = f' ∧ t = t')) : keyL f t ≠ keyL f' t' := fun e => by
  have h1 := keyOf_way hf ht
  have h2 := keyOf_way hf' ht'
  rw [← e] at h2
  have := Try.keyed.inj h1 h2
  simp at this
  exact h this
/-- Block M is a map: of each way a number. -/
def MapI (w : World) (M n : Nat) (g : Int → Int → Nat) : Prop :=
  ∃ D : DataW Unit, w.ownsMap Try.prog 88 (plainElem Try.prog 3) M n D ∧ ∀ f t, (0 ≤ f ∧ f ≤ 8) → (0 ≤ t ∧ t ≤ 8) → D.atKey (keyL f t) (.lit (.int .i64 0)) = .lit (.int .i64 (g f t : Nat))
namespace MapI
variable {w w' : World} {M n : Nat} {g : Int → Int → Nat}
theorem made (w : World) : MapI (w.alloc (.map #[] 0)) w.heap.size 0 (fun _ _ => 0) :=
  ⟨.map [], World.ownsMap_made w _ _ _, fun _ _ _ _ => rfl⟩
theorem mono (h : MapI w M n g) {n' : Nat} (hn : n ≤ n') : MapI w M n' g := by
  obtain ⟨D, h1, h2⟩ := h
  exact ⟨D, h1.mono hn, h2⟩
theorem lt (h : MapI w M n g) : M < w.heap.size := by
  obtain ⟨D, h1, _⟩ := h
  exact h1.lt
theorem of_block (h : MapI w M n g) (e : w'.heap[M]? = w.heap[M]?) : MapI w' M n g := by
  obtain ⟨D, ⟨es, ck, hb, r⟩, h2⟩ := h
  exact ⟨D, ⟨es, ck, e.trans hb, r⟩, h2⟩
theorem congr {g' : Int → Int → Nat} (h : MapI w M n g) (e : ∀ f t, g f t = g' f t) : MapI w M n g' := by
  have : g = g' := funext fun f => funext fun t => e f t
  rw [← this]; exact h
theorem is_map (h : MapI w M n g) : ∃ es ck, w.heap[M]? = some (.map es ck) := by
  obtain ⟨D, ⟨es, ck, hb, r⟩, h2⟩ := h
  exact ⟨es, ck, hb⟩
theorem look (h : MapI w M n g) {f t : Int} (hf : 0 ≤ f ∧ f ≤ 8) (ht : 0 ≤ t ∧ t ≤ 8) : (Instr.lookup 61 (.map (some M)) (keyV f t) false).run Try.prog w = .ok (.int .i64 (g f t : Nat)) w := by
  obtain ⟨D, h1, h2⟩ := h
  obtain ⟨c, hrun, hat, _⟩ := h1.lookup_int Try.keyed Try.underlying61 Try.underlying3 (Try.zeroInt _) (keyOf_way hf ht)
  rw [h2 f t hf ht] at hat
  simp at hat
  rw [hrun, hat]
theorem put (h : MapI w M n g) (hn : n ≤ 1000) {f t : Int} (hf : 0 ≤ f ∧ f ≤ 8) (ht : 0 ≤ t ∧ t ≤ 8) (x : Nat) (hx : x ≤ 1000) :
    ∃ w', (Instr.mapUpdate 61 (.map (some M)) (keyV f t) (.int .i64 (x : Int))).run Try.prog w = .ok () w' ∧ MapI w' M (n + 1) (fun a b => if f = a ∧ t = b then x else g a b) ∧ w.grownBy w' (some M) := by
  obtain ⟨D, h1, h2⟩ := h
  obtain ⟨w', hrun, ho, hg⟩ := h1.update Try.keyed Try.underlying61 (by unfold maxLen; omega) (keyOf_way hf ht) (plainElem_int Try.underlying3 (wfN hx))
  refine ⟨w', hrun, ⟨_, ho, fun a b ha hb => ?_⟩, hg⟩
  dsimp only
  by_cases e : f = a ∧ t = b
  · rw [if_pos e]
    obtain ⟨rfl, rfl⟩ := e
    exact atKey_put_same h1.isMap (by trivial) _ _
  · rw [if_neg e, atKey_put_other (keyL_ne ha hb hf ht (fun x => e ⟨x.1.symm, x.2.symm⟩))]
    exact h2 a b ha hb
end MapI
def offF (vo : Value) (M j : Nat) : Value := if j = 0 then vo else .map (some M)
/-- What was there is there as it was, but for the office's box, its map and rows of letters at or above B. -/
structure Kf (B R M : Nat) (w w' : World) : Prop where
  os : w'.os = w.os
  tape : w'.tape = w.tape
  output : w'.output = w.output
  size : w.heap.size ≤ w'.heap.size
  block : ∀ k, k < w.heap.size → k ≠ R → k ≠ M → (k < B ∨ ∀ c fr, w.heap[k]? ≠ some (.cells c 79 fr)) → w'.heap[k]? = w.heap[k]?
namespace Kf
variable {B R M : Nat} {w w' w'' : World}
theorem of_below (h : Below w.heap.size w w') : Kf B R M w w' := ⟨h.os, h.tape, h.output, h.size, fun k hk _ _ _ => h.block k hk⟩
theorem refl (B R M : Nat) (w : World) : Kf B R M w w := of_below (Below.refl _ _)
theorem trans (h : Kf B R M w w') (g : Kf B R M w' w'') : Kf B R M w w'' :=
  ⟨g.os.trans h.os, g.tape.trans h.tape, g.output.trans h.output, Nat.le_trans h.size g.size, fun k hk hne hm hp => by
    have e := h.block k hk hne hm hp
    refine (g.block k (Nat.lt_of_lt_of_le hk h.size) hne hm ?_).trans e
    rcases hp with x | x
    · exact .inl x
    · exact .inr (fun c fr => by rw [e]; exact x c fr)⟩
theorem setR (i : Nat) (v : Value) : Kf B R M w (w.setCell ⟨R, i, none⟩ v) :=
  ⟨rfl, rfl, rfl, by simp, fun k _ hne _ _ => Below.heap_setCell w ⟨R, i, none⟩ v k hne⟩
theorem map (g : w.grownBy w' (some M)) : Kf B R M w w' :=
  ⟨g.os, g.tape, g.output, g.size, fun k hk _ hm _ => g.block k hk (fun e => hm (by injection e))⟩
theorem grown {vo : Value} {n s : Nat} {xs : List Value} (h : w.ownsRow B 79 s vo n xs) (g : w.grownBy w' vo.ownBlock) : Kf B R M w w' :=
  ⟨g.os, g.tape, g.output, g.size, fun k hk _ _ hp => g.block k hk (fun e => by
    rcases h.2 with ⟨rfl, _⟩ | ⟨g', c, cur, rfl, hge, hb, _⟩
    · simp [Value.ownBlock] at e
    · simp only [Value.ownBlock, Option.some.injEq] at e
      subst e
      rcases hp with x | x
      · omega
      · exact x _ _ hb)⟩
theorem below (h : Kf B R M w w') (hB : B ≤ w.heap.size) (hR : B ≤ R) (hM : B ≤ M) : Below B w w' :=
  ⟨h.os, h.tape, h.output, h.size, fun k hk => h.block k (by omega) (by omega) (by omega) (.inl hk)⟩
theorem rowIs (h : Kf B R M w w') {b t n : Nat} {f : Nat → Value} (hr : w.rowIs b t n f) (ht : t ≠ 79) (hb : b ≠ R) (hm : b ≠ M) : w'.rowIs b t n f := by
  refine hr.of_block (h.block b hr.lt hb hm (.inr fun c fr => ?_))
  obtain ⟨c', hc, _⟩ := hr
  rw [hc]
  intro e
  simp at e
  exact ht e.2.1
end Kf
/-- The office. -/
structure OfI (B R M : Nat) (w : World) (vo : Value) (P : List RP) (o : Plain.Off) (n : Nat) : Prop where
  row : w.rowIs R 64 2 (offF vo M)
  ow : w.ownsRow B 79 3 vo P.length (encP.vals P)
  bs : ∀ r, r ∈ P → By B w r.p r.c r.y.data
  po : o.posted = P.map RP.y
  mp : MapI w M n (Plain.nextF o)
  geR : B ≤ R
  geM : B ≤ M
namespace OfI
variable {B R M n : Nat} {w w' : World} {vo : Value} {P : List RP} {o : Plain.Off}
theorem hB (h : OfI B R M w vo P o n) : B ≤ w.heap.size := by have := h.geR; have := h.row.lt; omega
theorem kb (h : OfI B R M w vo P o n) (k : Kf B R M w w') : Kb B w w' :=
  ⟨k.os, k.tape, k.output, k.size, fun j hj hp => by
    refine k.block j hj ?_ ?_ ?_
    · rintro rfl
      rcases hp with x | ⟨cs, fr, x⟩
      · have := h.geR; omega
      · obtain ⟨c', hc, _⟩ := h.row
        rw [hc] at x
        simp at x
    · rintro rfl
      rcases hp with x | ⟨cs, fr, x⟩
      · have := h.geM; omega
      · obtain ⟨es, ck, hc⟩ := h.mp.is_map
        rw [hc] at x
        simp at x
    · rcases hp with x | ⟨cs, fr, x⟩
      · exact .inl x
      · refine .inr fun c fr' e => ?_
        rw [x] at e
        simp at e⟩
theorem grow (h : OfI B R M w vo P o n) (g : Below w.heap.size w w') : OfI B R M w' vo P o n :=
  ⟨h.row.of_block (g.block _ h.row.lt), owns_grow h.ow g, fun r hr => (h.bs r hr).grow g, h.po, h.mp.of_block (g.block _ h.mp.lt), h.geR, h.geM⟩
theorem drewN (h : OfI B R M w vo P o n) (q : Nat) : OfI B R M (w.drewN q) vo P o n := h.grow (below_drewN (Below.refl _ _) q)
theorem mono (h : OfI B R M w vo P o n) {n' : Nat} (hn : n ≤ n') : OfI B R M w vo P o n' := ⟨h.row, h.ow, h.bs, h.po, h.mp.mono hn, h.geR, h.geM⟩
theorem c0 (h : OfI B R M w vo P o n) : w.cell? ⟨R, 0, none⟩ = some vo := h.row.cell (i := 0) (by omega)
theorem c1 (h : OfI B R M w vo P o n) : w.cell? ⟨R, 1, none⟩ = some (.map (some M)) := h.row.cell (i := 1) (by omega)
theorem ne (h : OfI B R M w vo P o n) : M ≠ R := fun e => by
  obtain ⟨es, ck, hm⟩ := h.mp.is_map
  obtain ⟨c', hc, _⟩ := h.row
  rw [e, hc] at hm
  simp at hm
theorem len (h : OfI B R M w vo P o n) : o.posted.length = P.length := by rw [h.po, List.length_map]
theorem at' (h : OfI B R M w vo P o n) {k : Nat} (hk : k < P.length) : o.at k = (P.getD k default).y := by
  unfold Plain.Off.at
  rw [h.po, getD_map RP.y P default default hk]
/-- The row of letters, in one form. -/
theorem form (h : OfI B R M w vo P o n) : ∃ p c, vo = .slice p P.length c ∧ (0 < P.length → ∃ g, p = some ⟨g, 0, none⟩ ∧ g < w.heap.size ∧
    ∀ j, j < P.length → w.cell? ⟨g, j * 3, none⟩ = some (.int .i64 (P.getD j default).y.frm) ∧ w.cell? ⟨g, j * 3 + 1, none⟩ = some (.int .i64 (P.getD j default).y.to) ∧ w.cell? ⟨g, j * 3 + 2, none⟩ = some (.slice (P.getD j default).p (P.getD j default).y.data.length (P.getD j default).c)) := by
  have ho := h.ow
  rcases ho.2 with ⟨rfl, h0⟩ | ⟨g, c, cur, rfl, hg, hb, h1, h2, h3, h4⟩
  · rw [h0]; exact ⟨none, 0, rfl, fun h => by omega⟩
  · refine ⟨_, c, rfl, fun _ => ⟨g, rfl, (Array.getElem?_eq_some_iff.1 hb).1, fun j hj => ?_⟩⟩
    have key : ∀ k u, k < 3 → (encP.enc (P.getD j default))[k]? = some u → w.cell? ⟨g, j * 3 + k, none⟩ = some u := fun k u hk hu => by
      have := ho.cells rfl (j * 3 + k) u (by rw [show j * 3 + k = j * encP.n + k from rfl, encP.vals_at default P j k hj hk]; exact hu)
      rw [add_at', Nat.zero_add] at this
      exact this
    exact ⟨key 0 _ (by decide) rfl, key 1 _ (by decide) rfl, key 2 _ (by decide) rfl⟩
end OfI
theorem Try.infoPo : (Try.prog.info? 79).map (fun i => (i.zero, i.size, i.bytes)) = some (some (.agg #[.int .i64 0, .int .i64 0, .slice none 0 0]), 3, 40) := by kernel_rfl
end Go.Proofs.Ytceikadhkbjdpai
