/-
  Goroutines among others: part 34 of what the law's own text rests on.
-/
import Derived.Test.YtcobehkadhcjiaaCc33
import Derived.WideShapes
import Derived.Deep.Slices
/-
  Rows of numbers and tables that came in, as windows: what is read of them.
-/
namespace Go.Proofs.Ytcobehkadhcjiaa
open Go Go.Conc Go.RowKit Go.ChangeShapes Go.WideShapes Go.ChangeAt Go.Deep

/-- One row of numbers that came in: its value, what it holds, where it lies. -/
structure InI where
  y : Value
  l : List Int
  s : Nat
  bl : Option Nat
  c : Nat
/-- A window of a block. -/
def WnI (W : World) (I : InI) : Prop := ∃ b, I.bl = some b ∧ I.y = .slice (some ⟨b, I.s, none⟩) I.l.length I.c ∧ (∃ cs e f, W.heap[b]? = some (.cells cs e f)) ∧ ∀ i, i < I.l.length → W.cell? ⟨b, I.s + i, none⟩ = some (.int .i64 (I.l.getD i 0))
/-- Of three kinds: nil; of no capacity, wherever it points; a window of a block. -/
def KdI (W : World) (I : InI) : Prop := I.l.length ≤ 9223372036854775807 ∧ ((I.y = .slice none 0 0 ∧ I.l = [] ∧ I.bl = none) ∨ (∃ a, I.y = .slice (some a) 0 0 ∧ I.l = [] ∧ I.bl = none) ∨ WnI W I)

theorem block_of_cell {W : World} {a : Addr} {v : Value} (h : W.cell? a = some v) : a.spot = none ∧ ∃ cs e f, W.heap[a.block]? = some (.cells cs e f) ∧ cs[a.off]? = some v := by
  unfold World.cell? at h
  split at h
  · rename_i c e f hc
    split at h
    · cases h
    · rename_i hs
      exact ⟨by simpa using hs, c, e, f, hc, h⟩
  · cases h
theorem add_zero' (a : Addr) : a.add 0 = a := by simp [Addr.add]
theorem add_at' (b o i : Nat) : (⟨b, o, none⟩ : Addr).add i = ⟨b, o + i, none⟩ := by
  unfold Addr.add
  by_cases h : i = 0
  · subst h; rfl
  · rw [if_neg h]

theorem int_open {H : Type} {enc : TypeId × Value → H} {W : World} {d : DataW H} {p : List MemPlace} {fuel : Nat} {cs : List Value} (h : DataW.trod enc Try.prog W 0 (fun _ => true) true fuel 22 cs = some (d, p)) : ∃ I : InI, cs = [I.y] ∧ KdI W I := by
  rcases open_slice1 (e := 3) Try.underlying22 (by kernel_rfl) h with ⟨rfl, _⟩ | ⟨ad, len, cap, m, n, V, D, Pl, rfl, _, hl, hm, hmm, _, hx⟩
  · exact ⟨⟨.slice none 0 0, [], 0, none, 0⟩, rfl, by show 0 ≤ _; omega, .inl ⟨rfl, rfl, rfl⟩⟩
  have hmc : m = cap := by rw [hmm]; rfl
  subst hmc
  by_cases h0 : m = 0
  · subst h0
    have : len = 0 := by omega
    subst this
    exact ⟨⟨.slice (some ad) 0 0, [], 0, none, 0⟩, rfl, by show 0 ≤ _; omega, .inr (.inl ⟨ad, rfl, rfl, rfl⟩)⟩
  have key : ∀ i, i < m → ∃ z : Int, W.cell? (ad.add i) = some (.int .i64 z) := fun i hi => by
    obtain ⟨h1, h2⟩ := hx i hi
    obtain ⟨z, h3, _⟩ := DataW.trod_int (k := .i64) Try.underlying3 h2
    simp only [List.cons.injEq, and_true] at h3
    exact ⟨z, by rw [h1, h3]⟩
  obtain ⟨z0, hz0⟩ := key 0 (by omega)
  rw [add_zero'] at hz0
  obtain ⟨q1, q2, q3, q4, q5, _⟩ := block_of_cell hz0
  obtain ⟨ab, ao, asp⟩ := ad
  simp only at q1 q5
  subst q1
  have hml : m ≤ 9223372036854775807 := hm
  let f : Nat → Int := fun i => if h : i < m then (key i h).choose else 0
  have hf : ∀ i, i < m → W.cell? ⟨ab, ao + i, none⟩ = some (.int .i64 (f i)) := fun i hi => by
    have := (key i hi).choose_spec
    simp only [f, dif_pos hi]
    exact (congrArg W.cell? (add_at' ab ao i).symm).trans this
  refine ⟨⟨.slice (some ⟨ab, ao, none⟩) len m, (List.range len).map f, ao, some ab, m⟩, rfl, by simp; omega, .inr (.inr ⟨ab, rfl, by simp, ⟨q2, q3, q4, q5⟩, fun i hi => ?_⟩)⟩
  simp only [List.length_map, List.length_range] at hi
  rw [hf i (by omega)]
  simp [hi]

/-- A table that came in, row by row. -/
theorem ints_in {H : Type} {enc : TypeId × Value → H} {W : World} {d : DataW H} {p : List MemPlace} {ad : Addr} {len cap : Nat} (h : DataW.Trod enc Try.prog W 0 (fun _ => true) true 23 (.slice (some ad) len cap) d p) :
    len ≤ cap ∧ cap ≤ maxLen ∧ ∃ F : Nat → InI, ∀ j, j < len → W.cell? (ad.add j) = some (F j).y ∧ KdI W (F j) := by
  obtain ⟨fuel, hfu⟩ := h
  rcases open_slice1 (e := 22) Try.underlying23 (by kernel_rfl) hfu with ⟨h0, _⟩ | ⟨a1, l, c, m, n, V, D, Pl, hc, _, hl, hm, hmm, _, hx⟩
  · simp [Value.cells] at h0
  simp [Value.cells] at hc
  obtain ⟨rfl, rfl, rfl⟩ := hc
  have hlm : len ≤ m := by rw [hmm]; split <;> omega
  have key : ∀ i, i < len → ∃ I : InI, W.cell? (ad.add i) = some I.y ∧ KdI W I := by
    intro i hi
    obtain ⟨h1, h2⟩ := hx i (by omega)
    obtain ⟨I, e1, hI⟩ := int_open h2
    simp only [List.cons.injEq, and_true] at e1
    exact ⟨I, by rw [h1, e1], hI⟩
  refine ⟨hl, hm, fun i => if h : i < len then (key i h).choose else ⟨.slice none 0 0, [], 0, none, 0⟩, fun i hi => ?_⟩
  simp only [dif_pos hi]
  exact (key i hi).choose_spec
end Go.Proofs.Ytcobehkadhcjiaa

/-
  Rows of numbers and tables that came in, as windows: the world alone.
-/
namespace Go.Proofs.Ytcobehkadhcjiaa
open Go Go.Conc Go.RowKit Go.ChangeShapes Go.WideShapes Go.ChangeAt Go.Deep

/-- What came in: a row of numbers, a table. -/
structure InX where
  T : InI
  ob : Option Nat
  oo : Nat
  n : Nat
  cap : Nat
  F : Nat → InI
structure OkX (W : World) (X : InX) : Prop where
  t : (X.T.y = .slice none 0 0 ∧ X.T.l = [] ∧ X.T.bl = none) ∨ WnI W X.T
  o : (X.ob = none ∧ X.n = 0 ∧ X.cap = 0) ∨ ∃ b, X.ob = some b ∧ ∃ cs e f, W.heap[b]? = some (.cells cs e f)
  f : ∀ j, j < X.n → ∃ b, X.ob = some b ∧ W.cell? ⟨b, X.oo + j, none⟩ = some (X.F j).y ∧ KdI W (X.F j)
def InX.y1 (X : InX) : Value := match X.ob with
  | some b => .slice (some ⟨b, X.oo, none⟩) X.n X.cap
  | none => .slice none X.n X.cap
def InX.u0 (X : InX) : Value := match X.T.bl with
  | some _ => .slice (some ⟨0, 0, none⟩) X.T.l.length X.T.c
  | none => .slice none 0 0
def InX.p1 (X : InX) : Option Addr := match X.ob with
  | some _ => some ⟨1, 0, none⟩
  | none => none
def InX.u1 (X : InX) : Value := .slice X.p1 X.n X.cap

def hiOf (W : World) (b : Nat) : Nat := match W.heap[b]? with | some (.cells _ _ f) => f.2 | _ => 0
def uOf (I : InI) (j : Nat) : Value := match I.bl with
  | some _ => .slice (some ⟨j + 2, 0, none⟩) I.l.length I.c
  | none => match I.y with | .slice none _ _ => .slice none 0 0 | _ => .slice (some ⟨1, 0, some 0⟩) 0 0
def cellsX (X : InX) : Nat → Array Value
  | 0 => (X.T.l.map (Value.int .i64)).toArray
  | 1 => Array.ofFn fun j : Fin X.n => uOf (X.F j) j
  | j + 2 => ((X.F j).l.map (Value.int .i64)).toArray
def blX (X : InX) : Nat → Option Nat
  | 0 => X.T.bl
  | 1 => X.ob
  | j + 2 => (X.F j).bl
def shX (X : InX) : Nat → Nat
  | 0 => X.T.s
  | 1 => X.oo
  | j + 2 => (X.F j).s
def hiX (W : World) (X : InX) (a : Nat) : Nat := match blX X a with | some b => hiOf W b | none => 0
def objX (W : World) (X : InX) (a : Nat) : Obj := .cells (cellsX X a) bogT (0, (cellsX X a).size + 1 + hiX W X a)
def leftX (W : World) (X : InX) : World := { W with heap := Array.ofFn fun a : Fin (X.n + 2) => objX W X a }
def rX (X : InX) : BR := fun a b => a < X.n + 2 ∧ blX X a = some b

theorem leftX_size (W : World) (X : InX) : (leftX W X).heap.size = X.n + 2 := by simp [leftX]
theorem leftX_at (W : World) (X : InX) {a : Nat} (h : a < X.n + 2) : (leftX W X).heap[a]? = some (objX W X a) := by
  unfold leftX
  simp only [Array.getElem?_ofFn]
  rw [dif_pos h]
theorem leftX_cell (W : World) (X : InX) {a : Nat} (h : a < X.n + 2) (o : Nat) : (leftX W X).cell? ⟨a, o, none⟩ = (cellsX X a)[o]? := by
  unfold World.cell?
  simp only [leftX_at W X h, objX]
  rfl

section
variable {W : World} {X : InX}
theorem leftX_hr0 (S : FuncId → Bool) (hX : OkX W X) : letI := shiftOf (X.n + 2) (shX X); HR0 S (rX X) (leftX W X) W := by
  letI := shiftOf (X.n + 2) (shX X)
  have es : ∀ {a}, a < X.n + 2 → shf a = shX X a := fun {a} h => by
    unfold shf
    exact if_pos h
  have hfz : ∀ (b a : Nat) cs e f, W.heap[b]? = some (.cells cs e f) → blX X a = some b → ∀ o, Fz f (o + shf a) → Fz (0, (cellsX X a).size + 1 + hiX W X a) o := fun b a cs e f hc he o hz => by
    have h1 : hiOf W b = f.2 := by unfold hiOf; rw [hc]
    have h2 : hiX W X a = hiOf W b := by unfold hiX; rw [he]
    refine ⟨Nat.zero_le _, ?_⟩
    have := hz.2
    show o < _
    omega
  have row : ∀ (I : InI) (a b : Nat), a < X.n + 2 → blX X a = some b → shX X a = I.s → cellsX X a = (I.l.map (Value.int .i64)).toArray → WnI W I → I.bl = some b → ∃ o o', (leftX W X).heap[a]? = some o ∧ W.heap[b]? = some o' ∧ OR S (rX X) a o o' := fun I a b ha hb hs hcs hI hbl => by
    obtain ⟨b', e1, e2, ⟨cs, e, f, hc⟩, hk⟩ := hI
    rw [hbl] at e1
    cases e1
    refine ⟨_, _, leftX_at W X ha, hc, OR.win e ha (fun i v hv => ?_) (fun o ho => ⟨Nat.zero_le _, by show o < _; omega⟩) (hfz b a cs e f hc hb)⟩
    rw [es ha, hs]
    rw [hcs] at hv
    simp only [List.getElem?_toArray, List.getElem?_map, Option.map_eq_some_iff] at hv
    obtain ⟨z, hz, rfl⟩ := hv
    have hi : i < I.l.length := (List.getElem?_eq_some_iff.1 hz).1
    have hk' := hk i hi
    rw [List.getD_eq_getElem?_getD, hz] at hk'
    obtain ⟨_, cs2, e3, f2, q1, q2⟩ := block_of_cell hk'
    rw [hc] at q1
    cases q1
    exact ⟨.int .i64 z, by rw [Nat.add_comm]; exact q2, .int _ _⟩
  refine ⟨fun {a b c} h1 h2 => ?_, fun {a b c} h1 h2 => .inr ⟨h1.1, h2.1⟩, fun {a b} h => ?_, by rw [leftX_size]; exact Nat.le_refl _⟩
  · have := h1.2.symm.trans h2.2
    exact Option.some.inj this
  · obtain ⟨ha, hb⟩ := h
    match a, ha, hb with
    | 0, ha, hb =>
      have hb' : X.T.bl = some b := hb
      rcases hX.t with ⟨_, _, e⟩ | hI
      · rw [e] at hb'; cases hb'
      · exact row X.T 0 b ha hb rfl rfl hI hb'
    | 1, ha, hb =>
      have hb' : X.ob = some b := hb
      rcases hX.o with ⟨e, _⟩ | ⟨b', e, cs, ty, f, hc⟩
      · rw [e] at hb'; cases hb'
      · rw [hb'] at e
        cases e
        refine ⟨_, _, leftX_at W X ha, hc, OR.win ty ha (fun i v hv => ?_) (fun o ho => ⟨Nat.zero_le _, by show o < _; omega⟩) (hfz b 1 cs ty f hc hb)⟩
        rw [es ha]
        simp only [cellsX, Array.getElem?_ofFn] at hv
        by_cases hi : i < X.n
        · rw [dif_pos hi] at hv
          cases hv
          obtain ⟨b2, e2, k1, _, k3⟩ := hX.f i hi
          rw [hb'] at e2
          cases e2
          obtain ⟨_, cs2, e2, f2, q1, q2⟩ := block_of_cell k1
          rw [hc] at q1
          cases q1
          refine ⟨(X.F i).y, by rw [Nat.add_comm]; exact q2, ?_⟩
          show VR S _ (uOf (X.F i) i) _
          unfold uOf
          rcases k3 with ⟨y, _, bl⟩ | ⟨a, y, _, bl⟩ | ⟨b2, bl, y, _, _⟩
          · rw [bl, y]; exact .nilSlice _ _
          · rw [bl, y]; exact .void (b := b) ⟨by show 1 < X.n + 2; omega, hb'⟩ (by simp)
          · rw [bl, y]
            have hi2 : i + 2 < X.n + 2 := by omega
            exact .slice _ _ ⟨⟨hi2, bl⟩, by show (X.F i).s = 0 + shf (i + 2); rw [es hi2]; show (X.F i).s = 0 + (X.F i).s; omega, rfl⟩
        · rw [dif_neg hi] at hv
          cases hv
    | j + 2, ha, hb =>
      have hb' : (X.F j).bl = some b := hb
      obtain ⟨_, _, _, _, k3⟩ := hX.f j (by omega)
      rcases k3 with ⟨_, _, bl⟩ | ⟨_, _, _, bl⟩ | hI
      · rw [bl] at hb'; cases hb'
      · rw [bl] at hb'; cases hb'
      · exact row (X.F j) (j + 2) b ha hb rfl rfl hI hb'

theorem leftX_rr (S : FuncId → Bool) (hX : OkX W X) : letI := shiftOf (X.n + 2) (shX X); RR S (rX X) #[X.u0, X.u1] #[X.T.y, X.y1] := by
  letI := shiftOf (X.n + 2) (shX X)
  have s0 : shf 0 = X.T.s := if_pos (show 0 < X.n + 2 by omega)
  have s1 : shf 1 = X.oo := if_pos (show 1 < X.n + 2 by omega)
  refine (RR.nil.push (?_ : VR S (rX X) X.u0 X.T.y)).push (?_ : VR S (rX X) X.u1 X.y1)
  · unfold InX.u0
    rcases hX.t with ⟨y, _, bl⟩ | ⟨b, bl, y, _⟩
    · rw [bl, y]; exact .nilSlice _ _
    · rw [bl, y]
      exact .slice _ _ ⟨⟨by show 0 < X.n + 2; omega, bl⟩, by show X.T.s = 0 + shf 0; rw [s0]; omega, rfl⟩
  · unfold InX.u1 InX.p1 InX.y1
    cases ho : X.ob with
    | none => exact .nilSlice _ _
    | some b => exact .slice _ _ ⟨⟨by show 1 < X.n + 2; omega, ho⟩, by show X.oo = 0 + shf 1; rw [s1]; omega, rfl⟩

/-- What the left holds. -/
theorem leftX_seg (hX : OkX W X) : ∃ p c, X.u0 = .slice p X.T.l.length c ∧ Seg (leftX W X) X.u0 X.T.l := by
  unfold InX.u0
  rcases hX.t with ⟨_, l, bl⟩ | ⟨b, bl, _, _, _⟩
  · rw [bl, l]
    exact ⟨none, 0, rfl, Seg.nil _⟩
  · rw [bl]
    refine ⟨_, _, rfl, .inr ⟨0, 0, X.T.c, rfl, fun j hj => ?_⟩⟩
    rw [leftX_cell W X (by omega), Nat.zero_add]
    simp [cellsX, hj]
def InX.ws (X : InX) : List (List Int) := (List.range X.n).map fun j => (X.F j).l
theorem InX.ws_len (X : InX) : X.ws.length = X.n := by simp [InX.ws]
theorem InX.ws_at (X : InX) {j : Nat} (h : j < X.n) : X.ws.getD j [] = (X.F j).l := by simp [InX.ws, h]
theorem leftX_tab (hX : OkX W X) : TabW (leftX W X) X.p1 X.ws := ⟨fun j hj => by
  rw [X.ws_len] at hj
  obtain ⟨b, hb, k1, _, k3⟩ := hX.f j hj
  refine ⟨1, 0, uOf (X.F j) j, by unfold InX.p1; rw [hb], ?_, ?_, ?_⟩
  · rw [leftX_cell W X (by omega), Nat.zero_add]
    simp only [cellsX, Array.getElem?_ofFn]
    rw [dif_pos hj]
  · rw [X.ws_at hj]
    unfold uOf
    rcases k3 with ⟨y, l, bl⟩ | ⟨a, y, l, bl⟩ | ⟨b2, bl, y, _, hk⟩
    · rw [bl, y, l]; exact .inl ⟨rfl, _, _, rfl⟩
    · rw [bl, y, l]; exact .inl ⟨rfl, _, _, rfl⟩
    · rw [bl]
      refine .inr ⟨j + 2, 0, (X.F j).c, rfl, fun i hi => ?_⟩
      rw [leftX_cell W X (by omega), Nat.zero_add]
      simp [cellsX, hi]
  · unfold uOf
    rcases k3 with ⟨y, l, bl⟩ | ⟨a, y, l, bl⟩ | ⟨b2, bl, y, _, hk⟩
    · rw [bl, y]; exact lies_nil _ _ _
    · rw [bl, y]; exact lies_nil _ _ _
    · rw [bl]; exact lies_at (by rw [leftX_size]; omega)⟩
theorem leftX_big (hX : OkX W X) (j : Nat) : (X.ws.getD j []).length ≤ 9223372036854775807 := by
  by_cases hj : j < X.n
  · rw [X.ws_at hj]
    obtain ⟨_, _, _, k2, _⟩ := hX.f j hj
    exact k2
  · rw [List.getD_eq_getElem?_getD, List.getElem?_eq_none (by rw [X.ws_len]; omega)]
    exact Nat.zero_le _
end
end Go.Proofs.Ytcobehkadhcjiaa
