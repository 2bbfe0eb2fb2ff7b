/-
  Goroutines among others: part 28 of what the law's own text rests on.
-/
import Derived.Test.YtcobehkadhcjiaaCb26
import Derived.Test.YtcobehkadhcjiaaCb27
import Derived.WideShapes
/-
  Lists of entries that came in, as windows: what is read of them.
-/
namespace Go.Proofs.Ytcobehkadhcjiaa
open Go Go.Conc Go.RowKit Go.ChangeShapes Go.WideShapes Go.ChangeAt Go.Deep

/-- One list that came in: its value, what it holds, where it lies. -/
structure Ind where
  y : Value
  l : List Plain.En
  s : Nat
  bl : Option Nat
  c : Nat
/-- Of three kinds: nil; of no capacity, wherever it points; a window of a block. -/
def Kd (W : World) (I : Ind) : Prop := (I.l.length ≤ 9223372036854775807 ∧ ∀ i, i < I.l.length → InE (Plain.en I.l i)) ∧
  ((I.y = .slice none 0 0 ∧ I.l = [] ∧ I.bl = none) ∨ (∃ a, I.y = .slice (some a) 0 0 ∧ I.l = [] ∧ I.bl = none) ∨
    ∃ b, I.bl = some b ∧ I.y = .slice (some ⟨b, I.s, none⟩) I.l.length I.c ∧ I.l.length ≤ I.c ∧ (∃ cs e f, W.heap[b]? = some (.cells cs e f)) ∧ CellsN W b I.s I.l)

theorem block_of_cell {W : World} {a : Addr} {v : Value} (h : W.cell? a = some v) : a.spot = none ∧ ∃ cs e f, W.heap[a.block]? = some (.cells cs e f) ∧ cs[a.off]? = some v := by
  unfold World.cell? at h
  split at h
  · rename_i c e f hc
    split at h
    · cases h
    · rename_i hs
      exact ⟨by simpa using hs, c, e, f, hc, h⟩
  · cases h
theorem add_zero' (a : Addr) : a.add 0 = a := by simp [Addr.add]
theorem add_at' (b o i : Nat) : (⟨b, o, none⟩ : Addr).add i = ⟨b, o + i, none⟩ := by
  unfold Addr.add
  by_cases h : i = 0
  · subst h; rfl
  · rw [if_neg h]

theorem ind_open {H : Type} {enc : TypeId × Value → H} {W : World} {d : DataW H} {p : List MemPlace} {fuel : Nat} {cs : List Value} {r e : TypeId} {fs : Array Field}
    (hr : Try.prog.underlying r = some (.slice e)) (he : Try.prog.underlying e = some (.struct fs)) (ce : Try.prog.cellsOf e = 5) (hf : FieldsN fs)
    (h : DataW.trod enc Try.prog W 0 (fun _ => true) true fuel r cs = some (d, p)) : ∃ I : Ind, cs = [I.y] ∧ Kd W I := by
  rcases open_slice hr h with ⟨rfl, _⟩ | ⟨ad, len, cap, m, n, D, Pl, rfl, _, hl, hm, hmm, _, hx⟩
  · exact ⟨⟨.slice none 0 0, [], 0, none, 0⟩, rfl, ⟨by show 0 ≤ _; omega, fun i hi => absurd hi (by simp)⟩, .inl ⟨rfl, rfl, rfl⟩⟩
  have hmc : m = cap := by rw [hmm]; rfl
  subst hmc
  by_cases h0 : m = 0
  · subst h0
    have : len = 0 := by omega
    subst this
    exact ⟨⟨.slice (some ad) 0 0, [], 0, none, 0⟩, rfl, ⟨by show 0 ≤ _; omega, fun i hi => absurd hi (by simp)⟩, .inr (.inl ⟨ad, rfl, rfl, rfl⟩)⟩
  obtain ⟨l, hl2, hm2, s2, y2, hin⟩ := ens_open (a := some ad) (len := len) (cap := m) hr he ce hf ⟨fuel, h⟩
  obtain ⟨cs', k1, _⟩ := hx 0 (by omega)
  rw [ce, Nat.zero_mul, add_zero'] at k1
  obtain ⟨_, hlen, hcell⟩ := World.cells?_some k1
  have h4 := hcell 0 (by omega)
  rw [add_zero', List.getElem?_eq_getElem (by rw [hlen]; omega)] at h4
  obtain ⟨q1, q2, q3, q4, q5, _⟩ := block_of_cell h4
  obtain ⟨ab, ao, asp⟩ := ad
  simp only at q1 q5
  subst q1
  subst hl2
  refine ⟨⟨.slice (some ⟨ab, ao, none⟩) l.length m, l, ao, some ab, m⟩, rfl, ⟨hm2, hin⟩, .inr (.inr ⟨ab, rfl, rfl, hl, ⟨q2, q3, q4, q5⟩, ?_⟩)⟩
  rcases s2 with ⟨e1, _⟩ | ⟨b, off, c, e1, _, k⟩
  · subst e1
    intro j hj
    exact absurd hj (by simp)
  · cases e1
    exact k

theorem lists_in {H : Type} {enc : TypeId × Value → H} {W : World} {d : DataW H} {p : List MemPlace} {ad : Addr} {len cap : Nat} {t r e : TypeId} {fs : Array Field}
    (ht : Try.prog.underlying t = some (.slice r)) (hr : Try.prog.underlying r = some (.slice e)) (cr : Try.prog.cellsOf r = 1) (he : Try.prog.underlying e = some (.struct fs)) (ce : Try.prog.cellsOf e = 5) (hf : FieldsN fs)
    (h : DataW.Trod enc Try.prog W 0 (fun _ => true) true t (.slice (some ad) len cap) d p) : len ≤ cap ∧ cap ≤ maxLen ∧ ∃ F : Nat → Ind, ∀ j, j < len → W.cell? (ad.add j) = some (F j).y ∧ Kd W (F j) := by
  obtain ⟨fuel, hfu⟩ := h
  rcases open_slice ht hfu with ⟨h0, _⟩ | ⟨a1, l, c, m, n, D, Pl, hc, _, hl, hm, hmm, _, hx⟩
  · simp [Value.cells] at h0
  simp [Value.cells] at hc
  obtain ⟨rfl, rfl, rfl⟩ := hc
  have hlm : len ≤ m := by rw [hmm]; split <;> omega
  have key : ∀ i, i < len → ∃ I : Ind, W.cell? (ad.add i) = some I.y ∧ Kd W I := by
    intro i hi
    obtain ⟨cs', h1, h2⟩ := hx i (by omega)
    rw [cr, Nat.mul_one] at h1
    obtain ⟨_, hlen, hcell⟩ := World.cells?_some h1
    have h4 := hcell 0 (by omega)
    rw [add_zero'] at h4
    obtain ⟨I, e1, hI⟩ := ind_open hr he ce hf h2
    subst e1
    exact ⟨I, by simpa using h4, hI⟩
  refine ⟨hl, hm, fun i => if h : i < len then (key i h).choose else ⟨.slice none 0 0, [], 0, none, 0⟩, fun i hi => ?_⟩
  simp only [dif_pos hi]
  exact (key i hi).choose_spec
end Go.Proofs.Ytcobehkadhcjiaa

/-
  Lists of entries that came in, as windows: the world alone.
-/
namespace Go.Proofs.Ytcobehkadhcjiaa
open Go Go.Conc Go.RowKit Go.ChangeShapes Go.WideShapes Go.ChangeAt Go.Deep

def hiOf (W : World) (b : Nat) : Nat := match W.heap[b]? with | some (.cells _ _ f) => f.2 | _ => 0
def uOf (I : Ind) (j : Nat) : Value := match I.bl with
  | some _ => .slice (some ⟨j + 1, 0, none⟩) I.l.length I.c
  | none => match I.y with | .slice none _ _ => .slice none 0 0 | _ => .slice (some ⟨0, 0, some 0⟩) 0 0
def cellsO (F : Nat → Ind) (n : Nat) : Nat → Array Value
  | 0 => Array.ofFn fun j : Fin n => uOf (F j) j
  | j + 1 => (evals (F j).l).toArray
def hiO (W : World) (bo : Nat) (F : Nat → Ind) : Nat → Nat
  | 0 => hiOf W bo
  | j + 1 => match (F j).bl with | some b => hiOf W b | none => 0
def objO (W : World) (bo n : Nat) (F : Nat → Ind) (a : Nat) : Obj := .cells (cellsO F n a) bogT (0, (cellsO F n a).size + 1 + hiO W bo F a)
def leftW (W : World) (bo n : Nat) (F : Nat → Ind) : World := { W with heap := Array.ofFn fun a : Fin (n + 1) => objO W bo n F a }
def shO (oo : Nat) (F : Nat → Ind) : Nat → Nat
  | 0 => oo
  | j + 1 => (F j).s
def rO (bo n : Nat) (F : Nat → Ind) : BR := fun a b => (a = 0 ∧ b = bo) ∨ ∃ j, j < n ∧ a = j + 1 ∧ (F j).bl = some b

theorem left_size (W : World) (bo n : Nat) (F : Nat → Ind) : (leftW W bo n F).heap.size = n + 1 := by simp [leftW]
theorem left_at (W : World) (bo n : Nat) (F : Nat → Ind) {a : Nat} (h : a < n + 1) : (leftW W bo n F).heap[a]? = some (objO W bo n F a) := by
  unfold leftW
  simp only [Array.getElem?_ofFn]
  rw [dif_pos h]
theorem left_cell (W : World) (bo n : Nat) (F : Nat → Ind) {a : Nat} (h : a < n + 1) (o : Nat) : (leftW W bo n F).cell? ⟨a, o, none⟩ = (cellsO F n a)[o]? := by
  unfold World.cell?
  simp only [left_at W bo n F h, objO]
  rfl

theorem vr_plain {S : FuncId → Bool} [Shift] {r : BR} {l : List Plain.En} {u : Value} (h : u ∈ evals l) : VR S r u u := by
  unfold evals at h
  obtain ⟨e, _, hu⟩ := List.mem_flatMap.1 h
  simp only [encE, List.mem_cons, List.not_mem_nil, or_false] at hu
  rcases hu with rfl | rfl | rfl | rfl | rfl
  · exact .int _ _
  · exact .int _ _
  · exact .int _ _
  · exact .int _ _
  · exact .bool _

section
variable {W : World} {bo oo n : Nat} {F : Nat → Ind}

theorem left_hr0 (S : FuncId → Bool) (hb : ∃ cs e f, W.heap[bo]? = some (.cells cs e f)) (hF : ∀ j, j < n → W.cell? ⟨bo, oo + j, none⟩ = some (F j).y ∧ Kd W (F j)) :
    letI := shiftOf (n + 1) (shO oo F); HR0 S (rO bo n F) (leftW W bo n F) W := by
  letI := shiftOf (n + 1) (shO oo F)
  have es : ∀ {a}, a < n + 1 → shf a = shO oo F a := fun {a} h => by
    unfold shf
    exact if_pos h
  have hfz : ∀ (b a : Nat) cs e f, W.heap[b]? = some (.cells cs e f) → hiO W bo F a = hiOf W b → ∀ o, Fz f (o + shf a) → Fz (0, (cellsO F n a).size + 1 + hiO W bo F a) o := fun b a cs e f hc he o hz => by
    have : hiOf W b = f.2 := by unfold hiOf; rw [hc]
    refine ⟨Nat.zero_le _, ?_⟩
    have := hz.2
    show o < _
    rw [he]
    omega
  refine ⟨fun {a b c} h1 h2 => ?_, fun {a b c} h1 h2 => ?_, fun {a b} h => ?_, by rw [left_size]; exact Nat.le_refl _⟩
  · rcases h1 with ⟨e1, e2⟩ | ⟨j, _, e1, e2⟩ <;> rcases h2 with ⟨k1, k2⟩ | ⟨j', _, k1, k2⟩
    · rw [e2, k2]
    · omega
    · omega
    · have : j = j' := by omega
      subst this
      rw [e2] at k2
      exact Option.some.inj k2
  · right
    constructor
    · show a < n + 1
      rcases h1 with ⟨e1, _⟩ | ⟨j, hj, e1, _⟩ <;> omega
    · show b < n + 1
      rcases h2 with ⟨e1, _⟩ | ⟨j, hj, e1, _⟩ <;> omega
  · rcases h with ⟨rfl, rfl⟩ | ⟨j, hj, rfl, hbl⟩
    · obtain ⟨cs, e, f, hc⟩ := hb
      refine ⟨_, _, left_at W b n F (by omega), hc, OR.win e (show 0 < n + 1 by omega) (fun i v hv => ?_) (fun o ho => ⟨Nat.zero_le _, by show o < _; omega⟩) (hfz b 0 cs e f hc rfl)⟩
      rw [es (by omega)]
      simp only [cellsO, Array.getElem?_ofFn] at hv
      by_cases hi : i < n
      · rw [dif_pos hi] at hv
        cases hv
        obtain ⟨k1, k2, k3⟩ := hF i hi
        obtain ⟨_, cs2, e2, f2, q1, q2⟩ := block_of_cell k1
        rw [hc] at q1
        cases q1
        refine ⟨(F i).y, by rw [Nat.add_comm]; exact q2, ?_⟩
        show VR S _ (uOf (F i) i) _
        unfold uOf
        rcases k3 with ⟨y, _, bl⟩ | ⟨a, y, _, bl⟩ | ⟨b2, bl, y, _, _, _⟩
        · rw [bl, y]; exact .nilSlice _ _
        · rw [bl, y]; exact .void (b := b) (.inl ⟨rfl, rfl⟩) (by simp)
        · rw [bl, y]
          exact .slice _ _ ⟨.inr ⟨i, hi, rfl, bl⟩, by show (F i).s = 0 + shf (i + 1); rw [es (by omega)]; show (F i).s = 0 + (F i).s; omega, rfl⟩
      · rw [dif_neg hi] at hv
        cases hv
    · obtain ⟨_, k2, k3⟩ := hF j hj
      rcases k3 with ⟨_, _, bl⟩ | ⟨_, _, _, bl⟩ | ⟨b2, bl, y, _, ⟨cs, e, f, hc⟩, hk⟩
      · rw [bl] at hbl; cases hbl
      · rw [bl] at hbl; cases hbl
      · rw [bl] at hbl
        cases hbl
        refine ⟨_, _, left_at W bo n F (by omega), hc, OR.win e (show j + 1 < n + 1 by omega) (fun i v hv => ?_) (fun o ho => ⟨Nat.zero_le _, by show o < _; omega⟩) (hfz b (j + 1) cs e f hc (by simp [hiO, bl]))⟩
        rw [es (by omega)]
        have hv' : (evals (F j).l)[i]? = some v := by simpa [cellsO] using hv
        obtain ⟨_, cs2, e2, f2, q1, q2⟩ := block_of_cell (hk.vals i v hv')
        rw [hc] at q1
        cases q1
        exact ⟨v, by show cs[i + (F j).s]? = _; rw [Nat.add_comm]; exact q2, vr_plain (List.mem_of_getElem? hv')⟩

theorem left_ls (hF : ∀ j, j < n → Kd W (F j)) {cap : Nat} (hc : n ≤ cap) : LsO (leftW W bo n F) (.slice (some ⟨0, 0, none⟩) n cap) ((List.range n).map fun j => (F j).l) := by
  have ln : ((List.range n).map fun j => (F j).l).length = n := by simp
  refine .inr ⟨0, 0, cap, by rw [ln], by rw [ln]; exact hc, by rw [ln], by rw [left_size]; omega, fun j hj => ?_⟩
  rw [ln] at hj
  refine ⟨uOf (F j) j, ?_, ?_⟩
  · rw [left_cell W bo n F (by omega), Nat.zero_add]
    simp only [cellsO, Array.getElem?_ofFn]
    rw [dif_pos hj]
  · have : ((List.range n).map fun j => (F j).l).getD j [] = (F j).l := by
      rw [List.getD_eq_getElem?_getD, List.getElem?_map, List.getElem?_range hj]
      rfl
    rw [this]
    obtain ⟨_, k⟩ := hF j hj
    unfold uOf
    rcases k with ⟨y, l, bl⟩ | ⟨a, y, l, bl⟩ | ⟨b2, bl, y, hlc, _, hk⟩
    · rw [bl, y, l]
      exact ⟨.inl ⟨rfl, _, _, rfl⟩, trivial⟩
    · rw [bl, y, l]
      exact ⟨.inl ⟨rfl, _, _, rfl⟩, by rw [left_size]; show 0 < n + 1; omega⟩
    · rw [bl]
      refine ⟨.inr ⟨j + 1, 0, (F j).c, rfl, hlc, CellsN.of_vals fun i u hu => ?_⟩, by rw [left_size]; show j + 1 < n + 1; omega⟩
      rw [left_cell W bo n F (by omega), Nat.zero_add]
      simpa [cellsO] using hu
end
end Go.Proofs.Ytcobehkadhcjiaa
