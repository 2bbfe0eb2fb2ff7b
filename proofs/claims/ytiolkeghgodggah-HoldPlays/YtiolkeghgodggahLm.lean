/-
  A branch in memory: its four numbers and the row of its open holds; what its orders leave alone; held.
-/
import Derived.Test.YtiolkeghgodggahJk
import Derived.Test.YtiolkeghgodggahLp
import Derived.Test.YtiolkeghgodggahWn
import Derived.Shelf.SlSortCmp.QuietGrown
namespace Go.Proofs.Ytiolkeghgodggah.Hd
open Go.RowKit Go.Shelf Go.Sort

def encP : Enc Plain.Pt := ⟨3, fun p => [.int .i64 p.id, .int .i64 p.count, .int .i64 p.ticks], fun _ => rfl, fun a u hu => by
  simp only [List.mem_cons, List.not_mem_nil, or_false] at hu
  rcases hu with rfl | rfl | rfl <;> rfl, by decide⟩
abbrev aggP (p : Plain.Pt) : Value := .agg #[.int .i64 p.id, .int .i64 p.count, .int .i64 p.ticks]
abbrev boxP (p : Plain.Pt) : Obj := .cells #[.int .i64 p.id, .int .i64 p.count, .int .i64 p.ticks] 73
theorem Try.infoPart : (Try.prog.info? 73).map (fun i => (i.zero, i.size, i.bytes)) = some (some (.agg #[.int .i64 0, .int .i64 0, .int .i64 0]), 3, 24) := by kernel_rfl
/-- The three cells of an open hold. -/
structure CellP (w : World) (b o : Nat) (d : Plain.Pt) : Prop where
  c0 : w.cell? ⟨b, o, none⟩ = some (.int .i64 d.id)
  c1 : w.cell? ⟨b, o + 1, none⟩ = some (.int .i64 d.count)
  c2 : w.cell? ⟨b, o + 2, none⟩ = some (.int .i64 d.ticks)
theorem CellP.below {w w' : World} {b o B : Nat} {d : Plain.Pt} (h : CellP w b o d) (g : Below B w w') (hlt : b < B) : CellP w' b o d :=
  ⟨(g.cell (p := ⟨b, o, none⟩) hlt).trans h.c0, (g.cell (p := ⟨b, o + 1, none⟩) hlt).trans h.c1, (g.cell (p := ⟨b, o + 2, none⟩) hlt).trans h.c2⟩
abbrev OwnP (w : World) (B : Nat) (v : Value) (l : List Plain.Pt) : Prop := w.ownsRow B 73 3 v l.length (encP.vals l)
/-- The row, in one form. -/
theorem ownP_form {w : World} {B : Nat} {v : Value} {l : List Plain.Pt} (h : OwnP w B v l) : ∃ p c, v = .slice p l.length c ∧ l.length ≤ c ∧ c ≤ maxLen ∧ (0 < l.length → ∃ g, p = some ⟨g, 0, none⟩ ∧ B ≤ g ∧ g < w.heap.size ∧
    (∀ j, j < l.length → CellP w g (j * 3) (l.getD j default)) ∧ ∀ j, w.frozen? ⟨g, j, none⟩ = false) := by
  rcases h.2 with ⟨rfl, h0⟩ | ⟨g, c, cur, rfl, hg, hb, h1, h2, h3, h4⟩
  · rw [h0]; exact ⟨none, 0, rfl, Nat.le_refl _, Nat.zero_le _, fun h => by omega⟩
  · have hlt : g < w.heap.size := (Array.getElem?_eq_some_iff.1 hb).1
    refine ⟨_, c, rfl, h1, h2, fun _ => ⟨g, rfl, hg, hlt, fun j hj => ?_, fun j => by simp [World.frozen?, hb]⟩⟩
    have key : ∀ k u, k < 3 → (encP.enc (l.getD j default))[k]? = some u → w.cell? ⟨g, j * 3 + k, none⟩ = some u := fun k u hk hu => by
      have := h.cells rfl (j * 3 + k) u (by rw [show j * 3 + k = j * encP.n + k from rfl, encP.vals_at default l j k hj hk]; exact hu)
      rw [add_at', Nat.zero_add] at this
      exact this
    exact ⟨key 0 _ (by decide) rfl, key 1 _ (by decide) rfl, key 2 _ (by decide) rfl⟩

def brF (f u : Int) (vo : Value) (m : Int) (j : Nat) : Value := if j = 0 then .int .i64 f else if j = 1 then .int .i64 u else if j = 2 then vo else .int .i64 m

/-- A row's own block, or a new one. -/
def Near (w : World) (vo : Value) (k : Nat) : Prop := vo.ownBlock = some k ∨ w.heap.size ≤ k
/-- A stock: in a window of four cells; its row of open holds in a block of its own. -/
structure BrI (ZZ : Nat → Prop) (R oo : Nat) (XX : Win) (w : World) (vo : Value) (f u m : Int) (l : List Plain.Pt) : Prop where
  row : w.rowIs R XX.t XX.n (XX.f oo 4 (brF f u vo m))
  ow : OwnP w 0 vo l
  own : ∀ g, vo.ownBlock = some g → ZZ g
  up : ∀ k, w.heap.size ≤ k → ZZ k
  ne : XX.t ≠ 73
  le : oo + 4 ≤ XX.n
namespace BrI
variable {ZZ : Nat → Prop} {R oo : Nat} {XX : Win} {w w' : World} {vo : Value} {f u m : Int} {l : List Plain.Pt}
theorem grow (h : BrI ZZ R oo XX w vo f u m l) (g : Below w.heap.size w w') : BrI ZZ R oo XX w' vo f u m l :=
  ⟨h.row.of_block (g.block _ h.row.lt), owns_grow h.ow g, h.own, fun k hk => h.up k (Nat.le_trans g.size hk), h.ne, h.le⟩
theorem drewN (h : BrI ZZ R oo XX w vo f u m l) (q : Nat) : BrI ZZ R oo XX (w.drewN q) vo f u m l := h.grow (below_drewN (Below.refl _ _) q)
theorem lt (h : BrI ZZ R oo XX w vo f u m l) : R < w.heap.size := h.row.lt
theorem c0 (h : BrI ZZ R oo XX w vo f u m l) : w.cell? ⟨R, oo, none⟩ = some (.int .i64 f) := Win.cell h.row h.le (i := 0) (by omega)
theorem c1 (h : BrI ZZ R oo XX w vo f u m l) : w.cell? ⟨R, oo + 1, none⟩ = some (.int .i64 u) := Win.cell h.row h.le (i := 1) (by omega)
theorem c2 (h : BrI ZZ R oo XX w vo f u m l) : w.cell? ⟨R, oo + 2, none⟩ = some vo := Win.cell h.row h.le (i := 2) (by omega)
theorem c3 (h : BrI ZZ R oo XX w vo f u m l) : w.cell? ⟨R, oo + 3, none⟩ = some (.int .i64 m) := Win.cell h.row h.le (i := 3) (by omega)
theorem nown (h : BrI ZZ R oo XX w vo f u m l) : vo.ownBlock ≠ some R := row_owns_ne h.row h.ow h.ne
theorem upSet (h : BrI ZZ R oo XX w vo f u m l) (a : Addr) (v : Value) : ∀ k, (w.setCell a v).heap.size ≤ k → ZZ k := fun k hk => h.up k (by simpa using hk)
theorem free (h : BrI ZZ R oo XX w vo f u m l) (x : Int) : BrI ZZ R oo XX (w.setCell ⟨R, oo, none⟩ (.int .i64 x)) vo x u m l :=
  ⟨Win.set h.row 0 (by omega) _ fun j hj => by
    unfold brF
    by_cases e : j = 0
    · rw [if_pos e, if_pos e]
    · rw [if_neg e, if_neg e, if_neg e], ownsRow_setCell_other h.ow h.nown _, h.own, h.upSet _ _, h.ne, h.le⟩
theorem used (h : BrI ZZ R oo XX w vo f u m l) (x : Int) : BrI ZZ R oo XX (w.setCell ⟨R, oo + 1, none⟩ (.int .i64 x)) vo f x m l :=
  ⟨Win.set h.row 1 (by omega) _ fun j hj => by
    unfold brF
    by_cases e : j = 1
    · rw [if_pos e, if_neg (by omega), if_pos e]
    · rw [if_neg e]; simp only [if_neg e], ownsRow_setCell_other h.ow h.nown _, h.own, h.upSet _ _, h.ne, h.le⟩
theorem made (h : BrI ZZ R oo XX w vo f u m l) (x : Int) : BrI ZZ R oo XX (w.setCell ⟨R, oo + 3, none⟩ (.int .i64 x)) vo f u x l :=
  ⟨Win.set h.row 3 (by omega) _ fun j hj => by
    unfold brF
    by_cases e : j = 3
    · rw [if_pos e, if_neg (by omega), if_neg (by omega), if_neg (by omega)]
    · have : j = 0 ∨ j = 1 ∨ j = 2 := by omega
      rcases this with rfl | rfl | rfl <;> simp, ownsRow_setCell_other h.ow h.nown _, h.own, h.upSet _ _, h.ne, h.le⟩
/-- The row of open holds, and where it stands, anew. -/
theorem put {vo' : Value} {l' : List Plain.Pt} (h : BrI ZZ R oo XX w vo f u m l) (row : w'.rowIs R XX.t XX.n (XX.f oo 4 (brF f u vo m))) (ow : OwnP w' 0 vo' l') (own : ∀ g, vo'.ownBlock = some g → ZZ g) (hs : w.heap.size ≤ w'.heap.size) : BrI ZZ R oo XX (w'.setCell ⟨R, oo + 2, none⟩ vo') vo' f u m l' :=
  ⟨Win.set row 2 (by omega) _ fun j hj => by
    unfold brF
    by_cases e : j = 2
    · rw [if_pos e, if_neg (by omega), if_neg (by omega), if_pos e]
    · rw [if_neg e]; simp only [if_neg e], ownsRow_setCell_other ow (row_owns_ne row ow h.ne) _, own, fun k hk => h.up k (Nat.le_trans hs (by simpa using hk)), h.ne, h.le⟩
theorem mono {Z2 : Nat → Prop} (h : BrI ZZ R oo XX w vo f u m l) (hz : ∀ k, ZZ k → Z2 k) : BrI Z2 R oo XX w vo f u m l := ⟨h.row, h.ow, fun g hg => hz g (h.own g hg), fun k hk => hz k (h.up k hk), h.ne, h.le⟩
theorem own_lt (h : BrI ZZ R oo XX w vo f u m l) {g : Nat} (hg : vo.ownBlock = some g) : g < w.heap.size := by
  rcases h.ow.2 with ⟨rfl, _⟩ | ⟨g', c, cur, rfl, _, hb, _⟩
  · simp [Value.ownBlock] at hg
  · simp only [Value.ownBlock, Option.some.injEq] at hg
    subst hg
    exact (Array.getElem?_eq_some_iff.1 hb).1
/-- All that is its own: where its row lies, and what is new. -/
theorem near (h : BrI ZZ R oo XX w vo f u m l) : BrI (Near w vo) R oo XX w vo f u m l := ⟨h.row, h.ow, fun _ hg => .inl hg, fun _ hk => .inr hk, h.ne, h.le⟩
theorem near_le (h : BrI ZZ R oo XX w vo f u m l) (hs : w.heap.size ≤ w'.heap.size) : ∀ k, Near w' vo k → ZZ k := fun k hk => hk.elim (h.own k) (fun x => h.up k (Nat.le_trans hs x))
/-- A store into the row. -/
theorem ticks {g c : Nat} (h : BrI ZZ R oo XX w (.slice (some ⟨g, 0, none⟩) l.length c) f u m l) (i : Nat) (hi : i < l.length) (x : Int) :
    BrI ZZ R oo XX (w.setCell ⟨g, i * 3 + 2, none⟩ (.int .i64 x)) (.slice (some ⟨g, 0, none⟩) l.length c) f u m (l.set i { l.getD i default with ticks := x }) := by
  have hne : R ≠ g := fun e => h.nown (by simp [Value.ownBlock, e])
  have ho := (h.ow.stored (i * 3 + 2) (.int .i64 x)).1
  have ev : (encP.vals l).set (i * 3 + 2) (.int .i64 x) = encP.vals (l.set i { l.getD i default with ticks := x }) := by
    clear ho h hne
    induction l generalizing i with
    | nil => simp at hi
    | cons p l ih =>
      cases i with
      | zero => rfl
      | succ i =>
        have := ih i (by simpa using hi)
        rw [encP.vals_cons, List.set_cons_succ, encP.vals_cons, List.getD_cons_succ, ← this]
        rw [List.set_append_right _ _ (by rw [encP.len]; show 3 ≤ _; omega), encP.len]
        congr 2
        show (i + 1) * 3 + 2 - 3 = _
        omega
  rw [ev] at ho
  refine ⟨h.row.setOther (a := ⟨g, i * 3 + 2, none⟩) hne _, ?_, h.own, h.upSet _ _, h.ne, h.le⟩
  show World.ownsRow _ 0 73 3 _ (l.set i _).length (encP.vals (l.set i _))
  rw [List.length_set]
  exact ho
end BrI

set_option maxHeartbeats 1000000 in
/-- held: what the open holds have, together. -/
theorem hheld_g (ZZ : Nat → Prop) (R oo : Nat) (XX : Win) (vo : Value) (f u m : Int) (l : List Plain.Pt) (hc : ∀ p, p ∈ l → 0 ≤ p.count) (hs : Plain.sumP l ≤ 1048576) (hb : l.length ≤ 1000) (w : World) (h : BrI ZZ R oo XX w vo f u m l) :
    Calls Try.prog 41 #[.pointer (some ⟨R, oo, none⟩)] w fun e w' => e = .returned (.int .i64 (Plain.sumP l)) ∧ ∃ q os', w' = grow (w.drewN q) os' := by
  obtain ⟨p, c, rfl, _, _, hf⟩ := ownP_form h.ow
  have r2 := h.c2
  have HL := hid hf
  have HP := hid (fun k => Plain.sumP_part (l := l) k hc)
  have HS := hid hs
  have HCT := hid hc
  clear hf h hc hs
  generalize hn : l.length = n at *
  have HN := hid hn
  clear hn
  go_enter Try.func41, Try.ntmps41
  go_wp2
  go_loopg [3, 11] n (fun gg s3 s11 wr => ∃ (k : Nat) (S : Int), k ≤ n ∧ n - k ≤ gg ∧ s11 = .int .i64 k ∧ s3 = .int .i64 S ∧ Aside (∃ os', wr = grow (w.drewN 0) os') ∧ Aside (S = Plain.sumP (l.take k)))
  case atStart => exact ⟨0, 0, Nat.zero_le _, by omega, rfl, rfl, (show Aside _ from ⟨#[], by rw [grow_empty]; rfl⟩), (show Aside _ by simp only [List.take_zero]; rfl)⟩
  case round =>
    obtain ⟨k, S, hkk, hg, rfl, rfl, G, A⟩ := hrel
    by_cases hlt : k < n
    · have hltz : (k : Int) < (n : Int) := by omega
      obtain ⟨gc, rfl, _, hgl, hcc, _⟩ := HL.out (by omega)
      obtain ⟨os', hos⟩ := G.out
      obtain ⟨x0, x1, x2⟩ := (hcc k hlt).below (w' := wr) (B := w.heap.size) (by rw [hos]; exact ⟨rfl, rfl, rfl, by show w.heap.size ≤ (w.heap ++ os').size; simp, fun j hj => by
        show (w.heap ++ os')[j]? = w.heap[j]?
        rw [Array.getElem?_append_left (by omega)]⟩) hgl
      have HOS := hid hos
      clear hcc hos G
      have hnx := hid (Plain.sumP_next l k (by rw [HN.out]; exact hlt))
      have hS := HP.out k
      rw [← A.out] at hS
      have hS2 : S ≤ 1048576 := by have := HS.out; omega
      have hS1 := hS.1
      have hcb := HCT.out (l.getD k default) (by
        rw [List.getD_eq_getElem?_getD, List.getElem?_eq_getElem (by rw [HN.out]; exact hlt)]
        exact List.getElem_mem _)
      have hcb2 : (l.getD k default).count ≤ 1048576 := by
        have h1 := HP.out (k + 1)
        have h2 := hnx.out
        have h3 := HS.out
        rw [← A.out] at h2
        omega
      clear hS
      generalize l.getD k default = y at x0 x1 x2 hnx hcb hcb2
      obtain ⟨yi, yc, yt⟩ := y
      dsimp only at x0 x1 x2 hcb hcb2
      have RR := hid (show S + yc = Plain.sumP (l.take (k + 1)) by rw [hnx.out, A.out])
      clear hnx
      go_wp2
      go_roundg (n - (k + 1))
      case measure => omega
      case rel =>
        refine ⟨k + 1, S + yc, by omega, by omega, by go_num, rfl, (show Aside _ from ⟨os' ++ #[boxP ⟨yi, yc, yt⟩], ?_⟩), RR.out⟩
        rw [HOS.out, alloc_eq_grow, grow_grow]
    · have hltz : ¬ (k : Int) < (n : Int) := by omega
      have F := hid (show S = Plain.sumP l by rw [A.out, List.take_of_length_le (by rw [HN.out]; omega)])
      go_wp2
      go_ret
      exact ⟨ret_int F.out, 0, G.out⟩
theorem below_grow {B : Nat} {w w' : World} (h : Below B w w') (hB : B ≤ w'.heap.size) (n : Nat) (os : Array Obj) : Below B w (grow (w'.drewN n) os) :=
  h.trans ⟨rfl, rfl, rfl, by show w'.heap.size ≤ (w'.heap ++ os).size; simp, fun k hk => by
    show (w'.heap ++ os)[k]? = w'.heap[k]?
    rw [Array.getElem?_append_left (by omega)]⟩
end Go.Proofs.Ytiolkeghgodggah.Hd
