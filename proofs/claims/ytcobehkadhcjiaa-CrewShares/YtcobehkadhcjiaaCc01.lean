/-
  Goroutines among others: part 1 of what the law's own text rests on.
-/
import Derived.Conc.Events
import Derived.Calls
/-
  ONE GOROUTINE ALONE, AND THE SAME AMONG OTHERS: values and worlds whose blocks have other numbers. What is related; it is kept where more blocks are.
-/
namespace Go.Proofs.Ytcobehkadhcjiaa
open Go

/-- Which block of the world on the left is which block of the world on the right. -/
abbrev BR := Nat → Nat → Prop

/-- What came in: on the left the blocks below n, each a window of a block on the right: from the place sh a on. (What is written on the right outside of it is not known; several windows may be of one block: on the left nothing of it may be turned.) 'bog': a type that there is not. -/
class Shift where
  n : Nat
  sh : Nat → Nat
  bog : TypeId
variable [Shift]
def shf (a : Nat) : Nat := if a < Shift.n then Shift.sh a else 0
theorem shf_new {a : Nat} (h : Shift.n ≤ a) : shf a = 0 := by unfold shf; rw [if_neg (by omega)]
/-- Addresses. -/
structure AR (r : BR) (a a' : Addr) : Prop where
  block : r a.block a'.block
  off : a'.off = a.off + shf a.block
  spot : a'.spot = a.spot

theorem AR.mono {r r' : BR} (h : ∀ a b, r a b → r' a b) {a a' : Addr} (x : AR r a a') : AR r' a a' := ⟨h _ _ x.block, x.off, x.spot⟩
theorem AR.add {r : BR} {a a' : Addr} (x : AR r a a') (n : Nat) : AR r (a.add n) (a'.add n) := by
  unfold Addr.add
  split
  · exact x
  · refine ⟨x.block, ?_, rfl⟩
    have := x.off
    dsimp only
    omega

/-- Values; 'S': the functions that closures may name. (A channel bears the same number on both sides: on the left nothing lies there.) -/
inductive VR (S : FuncId → Bool) (r : BR) : Value → Value → Prop
  | bool (b : Bool) : VR S r (.bool b) (.bool b)
  | int (k : IntKind) (n : Int) : VR S r (.int k n) (.int k n)
  | string (s : ByteArray) : VR S r (.string s) (.string s)
  | nilPtr : VR S r (.pointer none) (.pointer none)
  | ptr {a a' : Addr} : AR r a a' → VR S r (.pointer (some a)) (.pointer (some a'))
  | nilSlice (n c : Nat) : VR S r (.slice none n c) (.slice none n c)
  | slice {a a' : Addr} (n c : Nat) : AR r a a' → VR S r (.slice (some a) n c) (.slice (some a') n c)
  | chan (c : Option Nat) : VR S r (.chan c) (.chan c)
  | func {f : FuncId} {cs cs' : Array Value} : S f = true → cs.size = cs'.size → (∀ (i : Nat) (h : i < cs.size) (h' : i < cs'.size), VR S r cs[i] cs'[i]) → VR S r (.func (.func f) #[] cs) (.func (.func f) #[] cs')
  | nilFunc : VR S r .nilFunc .nilFunc
  | iface (t : TypeId) {v v' : Value} : VR S r v v' → VR S r (.iface t v) (.iface t v')
  | nilIface : VR S r .nilIface .nilIface
  | agg {cs cs' : Array Value} : cs.size = cs'.size → (∀ (i : Nat) (h : i < cs.size) (h' : i < cs'.size), VR S r cs[i] cs'[i]) → VR S r (.agg cs) (.agg cs')
  | tuple {cs cs' : Array Value} : cs.size = cs'.size → (∀ (i : Nat) (h : i < cs.size) (h' : i < cs'.size), VR S r cs[i] cs'[i]) → VR S r (.tuple cs) (.tuple cs')
  /-- A slice of no length and no capacity may point wherever it will: on the left to no cell. -/
  | void {a a' : Addr} {b : Nat} : r a.block b → a.spot ≠ none → VR S r (.slice (some a) 0 0) (.slice (some a') 0 0)
  /-- On the left it is not used any more. -/
  | dead (f : Fn) (a b : Array Value) : VR S r (.tuple #[]) (.func f a b)

/-- Rows of values. -/
structure RR (S : FuncId → Bool) (r : BR) (cs cs' : Array Value) : Prop where
  size : cs.size = cs'.size
  at_ : ∀ (i : Nat) (h : i < cs.size) (h' : i < cs'.size), VR S r cs[i] cs'[i]

section
variable {S : FuncId → Bool} {r r' : BR}

theorem VR.mono (h : ∀ a b, r a b → r' a b) {v v' : Value} (x : VR S r v v') : VR S r' v v' := by
  induction x with
  | bool b => exact .bool b
  | int k n => exact .int k n
  | string s => exact .string s
  | nilPtr => exact .nilPtr
  | ptr a => exact .ptr (a.mono h)
  | nilSlice n c => exact .nilSlice n c
  | slice n c a => exact .slice n c (a.mono h)
  | chan c => exact .chan c
  | func s e _ ih => exact .func s e ih
  | nilFunc => exact .nilFunc
  | iface t _ ih => exact .iface t ih
  | nilIface => exact .nilIface
  | agg e _ ih => exact .agg e ih
  | tuple e _ ih => exact .tuple e ih
  | void k e => exact .void (h _ _ k) e
  | dead f a b => exact .dead f a b

theorem RR.mono (h : ∀ a b, r a b → r' a b) {cs cs' : Array Value} (x : RR S r cs cs') : RR S r' cs cs' := ⟨x.size, fun i h1 h2 => (x.at_ i h1 h2).mono h⟩

theorem RR.get {cs cs' : Array Value} (x : RR S r cs cs') {i : Nat} {v : Value} (h : cs[i]? = some v) : ∃ v', cs'[i]? = some v' ∧ VR S r v v' := by
  obtain ⟨hi, rfl⟩ := Array.getElem?_eq_some_iff.1 h
  have hi' : i < cs'.size := by have := x.size; omega
  exact ⟨cs'[i], by simp [hi'], x.at_ i hi hi'⟩
theorem RR.none {cs cs' : Array Value} (x : RR S r cs cs') {i : Nat} (h : cs[i]? = Option.none) : cs'[i]? = Option.none := by
  have := x.size
  simp at h ⊢
  omega
theorem RR.getD {cs cs' : Array Value} (x : RR S r cs cs') (i : Nat) {d d' : Value} (hd : VR S r d d') : VR S r (cs.getD i d) (cs'.getD i d') := by
  by_cases hi : i < cs.size
  · have hi' : i < cs'.size := by have := x.size; omega
    simp only [Array.getD, hi, hi', dif_pos]
    exact x.at_ i hi hi'
  · have hi' : ¬ i < cs'.size := by have := x.size; omega
    simp only [Array.getD, hi, hi', dif_neg, not_false_eq_true]
    exact hd
theorem RR.of_get {cs cs' : Array Value} (e : cs.size = cs'.size) (h : ∀ (i : Nat) v v', cs[i]? = some v → cs'[i]? = some v' → VR S r v v') : RR S r cs cs' :=
  ⟨e, fun i h1 h2 => h i _ _ (by simp [h1]) (by simp [h2])⟩
theorem RR.nil : RR S r #[] #[] := ⟨rfl, fun i h => by simp at h⟩
theorem RR.push {cs cs' : Array Value} (x : RR S r cs cs') {v v' : Value} (hv : VR S r v v') : RR S r (cs.push v) (cs'.push v') := by
  refine RR.of_get (by simp [x.size]) (fun i u u' h h' => ?_)
  rw [Array.getElem?_push] at h h'
  rw [← x.size] at h'
  split at h
  · rename_i hi
    rw [if_pos hi] at h'
    cases h; cases h'; exact hv
  · rename_i hi
    rw [if_neg hi] at h'
    obtain ⟨y, hy, hr⟩ := x.get h
    rw [hy] at h'; cases h'; exact hr
theorem RR.set {cs cs' : Array Value} (x : RR S r cs cs') {v v' : Value} (hv : VR S r v v') (i : Nat) : RR S r (cs.setIfInBounds i v) (cs'.setIfInBounds i v') := by
  refine RR.of_get (by simp [x.size]) (fun j u u' h h' => ?_)
  rw [Array.getElem?_setIfInBounds] at h h'
  rw [← x.size] at h'
  split at h
  · rename_i hij
    rw [if_pos hij] at h'
    split at h
    · rename_i hs
      rw [if_pos hs] at h'
      cases h; cases h'; exact hv
    · cases h
  · rename_i hij
    rw [if_neg hij] at h'
    obtain ⟨y, hy, hr⟩ := x.get h
    rw [hy] at h'; cases h'; exact hr
theorem RR.append {a a' b b' : Array Value} (x : RR S r a a') (y : RR S r b b') : RR S r (a ++ b) (a' ++ b') := by
  refine RR.of_get (by simp [x.size, y.size]) (fun i u u' h h' => ?_)
  rw [Array.getElem?_append] at h h'
  rw [← x.size] at h'
  split at h
  · rename_i hi
    rw [if_pos hi] at h'
    obtain ⟨z, hz, hr⟩ := x.get h
    rw [hz] at h'; cases h'; exact hr
  · rename_i hi
    rw [if_neg hi] at h'
    obtain ⟨z, hz, hr⟩ := y.get h
    rw [hz] at h'; cases h'; exact hr
theorem RR.map {α : Type} (l : Array α) (f g : α → Value) (h : ∀ x ∈ l, VR S r (f x) (g x)) : RR S r (l.map f) (l.map g) := by
  refine RR.of_get (by simp) (fun i u u' hu hu' => ?_)
  rw [Array.getElem?_map] at hu hu'
  obtain ⟨x, hx, rfl⟩ := Option.map_eq_some_iff.1 hu
  rw [hx] at hu'
  simp only [Option.map_some, Option.some.injEq] at hu'
  rw [← hu']
  exact h x (Array.mem_of_getElem? hx)
theorem RR.replicate (n : Nat) {v v' : Value} (h : VR S r v v') : RR S r (Array.replicate n v) (Array.replicate n v') := by
  refine RR.of_get (by simp) (fun i u u' hu hu' => ?_)
  simp only [Array.getElem?_replicate] at hu hu'
  split at hu
  · rename_i hi
    rw [if_pos hi] at hu'
    cases hu; cases hu'; exact h
  · cases hu
theorem RR.extract {a a' : Array Value} (x : RR S r a a') (i j : Nat) : RR S r (a.extract i j) (a'.extract i j) := by
  refine RR.of_get (by simp [x.size]) (fun k u u' h h' => ?_)
  rw [Array.getElem?_extract] at h h'
  rw [← x.size] at h'
  split at h
  · rename_i hk
    rw [if_pos hk] at h'
    obtain ⟨z, hz, hr⟩ := x.get h
    rw [hz] at h'; cases h'; exact hr
  · cases h

theorem VR.undef : VR S r undef undef := .tuple rfl (fun i h => by simp at h)
/-- The cells of related values. -/
theorem VR.cells {v v' : Value} (x : VR S r v v') : RR S r v.cells v'.cells := by
  have one : ∀ {u u' : Value}, VR S r u u' → RR S r #[u] #[u'] := fun {u u'} h => RR.nil.push h
  cases x with
  | agg e h => exact ⟨e, h⟩
  | void k e => exact one (.void k e)
  | dead f a b => exact one (.dead f a b)
  | _ => exact one (by constructor <;> assumption)
theorem VR.agg' {cs cs' : Array Value} (x : RR S r cs cs') : VR S r (.agg cs) (.agg cs') := .agg x.size x.at_
theorem VR.tuple' {cs cs' : Array Value} (x : RR S r cs cs') : VR S r (.tuple cs) (.tuple cs') := .tuple x.size x.at_
end

/-- No address in it: it is its own like. -/
inductive Flat (S : FuncId → Bool) : Value → Prop
  | bool (b : Bool) : Flat S (.bool b)
  | int (k : IntKind) (n : Int) : Flat S (.int k n)
  | string (s : ByteArray) : Flat S (.string s)
  | nilPtr : Flat S (.pointer none)
  | nilSlice (n c : Nat) : Flat S (.slice none n c)
  | chan (c : Option Nat) : Flat S (.chan c)
  | func {f : FuncId} : S f = true → Flat S (.func (.func f) #[] #[])
  | nilFunc : Flat S .nilFunc
  | nilIface : Flat S .nilIface
  | agg {cs : Array Value} : (∀ (i : Nat) (h : i < cs.size), Flat S cs[i]) → Flat S (.agg cs)
  | tuple {cs : Array Value} : (∀ (i : Nat) (h : i < cs.size), Flat S cs[i]) → Flat S (.tuple cs)

theorem Flat.vr {S : FuncId → Bool} {r : BR} {v : Value} (h : Flat S v) : VR S r v v := by
  induction h with
  | bool b => exact .bool b
  | int k n => exact .int k n
  | string s => exact .string s
  | nilPtr => exact .nilPtr
  | nilSlice n c => exact .nilSlice n c
  | chan c => exact .chan c
  | func s => exact .func s rfl (fun i h => by simp at h)
  | nilFunc => exact .nilFunc
  | nilIface => exact .nilIface
  | agg _ ih => exact .agg rfl (fun i h _ => ih i h)
  | tuple _ ih => exact .tuple rfl (fun i h _ => ih i h)

/-- Reckoned. -/
def flatB (S : FuncId → Bool) : Nat → Value → Bool
  | _, .bool _ | _, .int .. | _, .string _ | _, .pointer none | _, .slice none .. | _, .chan _ | _, .nilFunc | _, .nilIface => true
  | _, .func (.func f) a b => S f && a.isEmpty && b.isEmpty
  | d + 1, .agg cs | d + 1, .tuple cs => cs.all (flatB S d)
  | _, _ => false
omit [Shift] in
theorem flat_of {S : FuncId → Bool} : ∀ (d : Nat) (v : Value), flatB S d v = true → Flat S v
  | d, .bool b, _ => .bool b
  | d, .int k n, _ => .int k n
  | d, .string s, _ => .string s
  | d, .pointer none, _ => .nilPtr
  | d, .slice none n c, _ => .nilSlice n c
  | d, .chan c, _ => .chan c
  | d, .nilFunc, _ => .nilFunc
  | d, .nilIface, _ => .nilIface
  | d, .func (.func f) a b, h => by
    have h' : (S f && a.isEmpty && b.isEmpty) = true := by cases d <;> simpa [flatB] using h
    simp only [Bool.and_eq_true, Array.isEmpty_iff] at h'
    obtain ⟨⟨h1, rfl⟩, rfl⟩ := h'
    exact .func h1
  | d + 1, .agg cs, h => by
    simp only [flatB, Array.all_eq_true] at h
    exact .agg fun i hi => flat_of d _ (h i hi)
  | d + 1, .tuple cs, h => by
    simp only [flatB, Array.all_eq_true] at h
    exact .tuple fun i hi => flat_of d _ (h i hi)
  | 0, .agg cs, h => by simp [flatB] at h
  | 0, .tuple cs, h => by simp [flatB] at h
  | d, .float k b, h => by cases d <;> simp [flatB] at h
  | d, .complex k a b, h => by cases d <;> simp [flatB] at h
  | d, .pointer (some a), h => by cases d <;> simp [flatB] at h
  | d, .slice (some a) n c, h => by cases d <;> simp [flatB] at h
  | d, .map m, h => by cases d <;> simp [flatB] at h
  | d, .iface t v, h => by cases d <;> simp [flatB] at h
  | d, .func (.method n) a b, h => by cases d <;> simp [flatB] at h
  | d, .func (.methodOf t n) a b, h => by cases d <;> simp [flatB] at h
  | d, .func (.via t p f x) a b, h => by cases d <;> simp [flatB] at h
  | d, .func (.yield l) a b, h => by cases d <;> simp [flatB] at h

end Go.Proofs.Ytcobehkadhcjiaa

/-
  THE SAME ENTRY, CARRIED OUT ALONE AND AMONG OTHERS: what the run on the left comes to the run on the right comes to, with other numbers of blocks; and what it touches there.
-/
namespace Go.Proofs.Ytcobehkadhcjiaa
open Go
variable [Shift]

def Fz (f : Nat × Nat) (o : Nat) : Prop := f.1 ≤ o ∧ o < f.2
omit [Shift] in
theorem frozen_iff {w : World} {a : Addr} {c : Array Value} {e : TypeId} {f : Nat × Nat} (h : w.heap[a.block]? = some (.cells c e f)) : w.frozen? a = true ↔ Fz f a.off := by
  obtain ⟨lo, hi⟩ := f
  simp [World.frozen?, h, Fz]

/-- What may be written. -/
def Wr (w : World) (a o : Nat) : Prop := ∃ c e f, w.heap[a]? = some (.cells c e f) ∧ o < c.size ∧ ¬ Fz f o

/-- What lies in a block and in its like. -/
inductive OR (S : FuncId → Bool) (r : BR) (a : Nat) : Obj → Obj → Prop
  | cells {c c' : Array Value} (e : TypeId) {f f' : Nat × Nat} : Shift.n ≤ a → RR S r c c' → (∀ o, Fz f' o → Fz f o) → f' = (0, 0) → OR S r a (.cells c e f) (.cells c' e f')
  | win {c c' : Array Value} (e : TypeId) {f f' : Nat × Nat} : a < Shift.n → (∀ (i : Nat) v, c[i]? = some v → ∃ v', c'[i + shf a]? = some v' ∧ VR S r v v') → (∀ o, o ≤ c.size → Fz f o) → (∀ o, Fz f' (o + shf a) → Fz f o) → OR S r a (.cells c Shift.bog f) (.cells c' e f')
  | number {x x' : Addr} (lost : Bool) : Shift.n ≤ a → AR r x x' → OR S r a (.number x lost) (.number x' lost)
  | inert {c : Array Value} (e : TypeId) {f : Nat × Nat} : Shift.n ≤ a → 0 < c.size → (∀ o, ¬ Fz f o) → OR S r a (.coro none) (.cells c e f)

theorem OR.mono {S : FuncId → Bool} {r r' : BR} (h : ∀ a b, r a b → r' a b) {a : Nat} {o o' : Obj} (x : OR S r a o o') : OR S r' a o o' := by
  cases x with
  | cells e hn rr hz hf => exact .cells e hn (rr.mono h) hz hf
  | win e hn rr hz hz2 => exact .win e hn (fun i v hv => let ⟨v', h1, h2⟩ := rr i v hv; ⟨v', h1, h2.mono h⟩) hz hz2
  | number l hn a => exact .number l hn (a.mono h)
  | inert e hn h1 h2 => exact .inert e hn h1 h2

structure HR0 (S : FuncId → Bool) (r : BR) (w w' : World) : Prop where
  fn : ∀ {a b c : Nat}, r a b → r a c → b = c
  inj : ∀ {a b c : Nat}, r a c → r b c → a = b ∨ (a < Shift.n ∧ b < Shift.n)
  obj : ∀ {a b : Nat}, r a b → ∃ o o', w.heap[a]? = some o ∧ w'.heap[b]? = some o' ∧ OR S r a o o'
  low : Shift.n ≤ w.heap.size
/-- .. and what is drawn from here on is the same. -/
structure HR (S : FuncId → Bool) (r : BR) (w w' : World) : Prop extends HR0 S r w w' where
  tape : ∀ n q, w.tape (w.drawn + n) q = w'.tape (w'.drawn + n) q

/-- What the left does to the left. -/
structure LF (w w1 : World) : Prop where
  size : w.heap.size ≤ w1.heap.size
  obj : ∀ a c e f, a < w.heap.size → w1.heap[a]? = some (.cells c e f) → ∃ c0, w.heap[a]? = some (.cells c0 e f) ∧ c0.size = c.size
  kept : ∀ (a : Nat) c e f, w.heap[a]? = some (.cells c e f) → ∃ c1, w1.heap[a]? = some (.cells c1 e f)
  non : ∀ (a : Nat) (o : Obj), w.heap[a]? = some o → (∀ c e f, o ≠ Obj.cells c e f) → w1.heap[a]? = some o

/-- What the right does to the right. -/
structure FR (r r1 : BR) (w w' w1' : World) : Prop where
  ext : ∀ a b, r a b → r1 a b
  new : ∀ a b, r1 a b → r a b ∨ (w'.heap.size ≤ b ∧ b < w1'.heap.size ∧ w.heap.size ≤ a)
  tape : w1'.tape = w'.tape
  os : w1'.os = w'.os
  output : w1'.output = w'.output
  size : w'.heap.size ≤ w1'.heap.size
  old : ∀ b, b < w'.heap.size → (∀ a o, r a b → ¬ Wr w a o) → w1'.heap[b]? = w'.heap[b]?
  cell : ∀ b c e f, w'.heap[b]? = some (.cells c e f) → ∃ c1, w1'.heap[b]? = some (.cells c1 e f) ∧ c1.size = c.size ∧ ∀ o, (∀ a, r a b → ¬ Wr w a o) → c1[o]? = c[o]?

/-- What is listed on the right. -/
def EvOk (r1 : BR) (w : World) (e : Event) : Prop :=
  (∃ ad wr, e = ⟨.cell ad, wr, false⟩ ∧ ∃ a, r1 a ad.block ∧ (a < w.heap.size → (∃ c t f, w.heap[a]? = some (.cells c t f)) ∧ (wr = true → Wr w a ad.off))) ∨
  (∃ b, e = ⟨.obj b, false, false⟩ ∧ ∃ a, r1 a b ∧ (a < w.heap.size → ∃ x l, w.heap[a]? = some (.number x l))) ∨ e = ⟨.mark .noRoom, false, true⟩ ∨ ∃ f, e = ⟨.mark (.extern f), false, true⟩

def SR (P : Program) (S : FuncId → Bool) (r : BR) {α β : Type} (R : BR → α → β → Prop) (s : Sem α) (t : Sem β) : Prop :=
  ∀ w w' es, HR S r w w' → ∀ x w1, s.run P w = .ok x w1 →
    ∃ r1 y w1' l, t.run P w' = .ok y w1' ∧ t.events P w' es = es ++ l ∧ R r1 x y ∧ HR S r1 w1 w1' ∧ LF w w1 ∧ FR r r1 w w' w1' ∧ ∀ e ∈ l, EvOk r1 w e

omit [Shift] in
theorem LF.refl (w : World) : LF w w := ⟨Nat.le_refl _, fun _ c _ _ _ h => ⟨c, h, rfl⟩, fun _ c _ _ h => ⟨c, h⟩, fun _ _ h _ => h⟩
omit [Shift] in
theorem LF.of_heap {w w1 : World} (h : w1.heap = w.heap) : LF w w1 := ⟨by rw [h]; exact Nat.le_refl _, fun _ c _ _ _ x => ⟨c, by rw [← h]; exact x, rfl⟩, fun _ c _ _ x => ⟨c, by rw [h]; exact x⟩, fun _ _ x _ => by rw [h]; exact x⟩
omit [Shift] in
theorem FR.refl (r : BR) (w w' : World) : FR r r w w' w' := ⟨fun _ _ h => h, fun _ _ h => .inl h, rfl, rfl, rfl, Nat.le_refl _, fun _ _ _ => rfl, fun _ c _ _ h => ⟨c, h, rfl, fun _ _ => rfl⟩⟩
omit [Shift] in
theorem FR.of_heap (r : BR) {w w' w1' : World} (h : w1'.heap = w'.heap) (ht : w1'.tape = w'.tape) (ho : w1'.os = w'.os) (hp : w1'.output = w'.output) : FR r r w w' w1' :=
  ⟨fun _ _ h => h, fun _ _ h => .inl h, ht, ho, hp, by rw [h]; exact Nat.le_refl _, fun _ _ _ => by rw [h], fun _ c _ _ x => ⟨c, by rw [h]; exact x, rfl, fun _ _ => rfl⟩⟩
omit [Shift] in
theorem LF.wr {w w1 : World} (h : LF w w1) {a o : Nat} (ha : a < w.heap.size) (hw : Wr w1 a o) : Wr w a o := by
  obtain ⟨c, e, f, h1, h2, h3⟩ := hw
  obtain ⟨c0, h4, h5⟩ := h.obj a c e f ha h1
  exact ⟨c0, e, f, h4, by omega, h3⟩
omit [Shift] in
theorem LF.trans {w w1 w2 : World} (h : LF w w1) (h' : LF w1 w2) : LF w w2 := by
  refine ⟨Nat.le_trans h.size h'.size, fun a c e f ha hc => ?_, fun a c e f hc => ?_, fun a o ho hn => h'.non a o (h.non a o ho hn) hn⟩
  · obtain ⟨c1, h1, h2⟩ := h'.obj a c e f (Nat.lt_of_lt_of_le ha h.size) hc
    obtain ⟨c0, h3, h4⟩ := h.obj a c1 e f ha h1
    exact ⟨c0, h3, by omega⟩
  · obtain ⟨c1, h1⟩ := h.kept a c e f hc
    exact h'.kept a c1 e f h1
theorem HR0.lt {S : FuncId → Bool} {r : BR} {w w' : World} (h : HR0 S r w w') {a b : Nat} (x : r a b) : a < w.heap.size ∧ b < w'.heap.size := by
  obtain ⟨o, o', h1, h2, _⟩ := h.obj x
  exact ⟨(Array.getElem?_eq_some_iff.1 h1).1, (Array.getElem?_eq_some_iff.1 h2).1⟩

theorem FR.trans {S : FuncId → Bool} {r r1 r2 : BR} {w w1 w' w1' w2' : World} (h0 : HR0 S r w w') (hl : LF w w1) (h : FR r r1 w w' w1') (h' : FR r1 r2 w1 w1' w2') : FR r r2 w w' w2' := by
  have back : ∀ a b, b < w'.heap.size → r1 a b → r a b := fun a b hb x => by
    rcases h.new a b x with y | ⟨y, _⟩
    · exact y
    · omega
  refine ⟨fun a b x => h'.ext a b (h.ext a b x), fun a b x => ?_, h'.tape.trans h.tape, h'.os.trans h.os, h'.output.trans h.output, Nat.le_trans h.size h'.size, fun b hb hn => ?_, fun b c e f hc => ?_⟩
  · rcases h'.new a b x with y | ⟨y1, y2, y3⟩
    · rcases h.new a b y with z | ⟨z1, z2, z3⟩
      · exact .inl z
      · exact .inr ⟨z1, Nat.lt_of_lt_of_le z2 h'.size, z3⟩
    · exact .inr ⟨Nat.le_trans h.size y1, y2, Nat.le_trans hl.size y3⟩
  · refine (h'.old b (Nat.lt_of_lt_of_le hb h.size) (fun a o x hw => ?_)).trans (h.old b hb hn)
    have y := back a b hb x
    exact hn a o y (hl.wr (h0.lt y).1 hw)
  · obtain ⟨c1, h1, h2, h3⟩ := h.cell b c e f hc
    obtain ⟨c2, h4, h5, h6⟩ := h'.cell b c1 e f h1
    have hb : b < w'.heap.size := (Array.getElem?_eq_some_iff.1 hc).1
    exact ⟨c2, h4, h5.trans h2, fun o ho => (h6 o fun a x hw => by
      have y := back a b hb x
      exact ho a y (hl.wr (h0.lt y).1 hw)).trans (h3 o ho)⟩

omit [Shift] in
theorem EvOk.later {r2 : BR} {w w1 : World} (hl : LF w w1) {e : Event} (h : EvOk r2 w1 e) : EvOk r2 w e := by
  rcases h with ⟨ad, wr, he, a, hr, hc⟩ | ⟨b, he, a, hr, hc⟩ | h
  · refine .inl ⟨ad, wr, he, a, hr, fun ha => ?_⟩
    obtain ⟨⟨c, t, f, h1⟩, h2⟩ := hc (Nat.lt_of_lt_of_le ha hl.size)
    obtain ⟨c0, h3, _⟩ := hl.obj a c t f ha h1
    exact ⟨⟨c0, t, f, h3⟩, fun x => hl.wr ha (h2 x)⟩
  · refine .inr (.inl ⟨b, he, a, hr, fun ha => ?_⟩)
    obtain ⟨x, l, h1⟩ := hc (Nat.lt_of_lt_of_le ha hl.size)
    obtain ⟨o, ho⟩ : ∃ o, w.heap[a]? = some o := ⟨w.heap[a], by simp [ha]⟩
    cases o with
    | cells c e f =>
      obtain ⟨c1, h2⟩ := hl.kept a c e f ho
      rw [h1] at h2
      cases h2
    | _ =>
      have h2 := hl.non a _ ho (by intro _ _ _ h; cases h)
      rw [h1] at h2
      cases h2 <;> exact ⟨_, _, ho⟩
  · exact .inr (.inr h)
omit [Shift] in
theorem EvOk.ext {r1 r2 : BR} {w : World} (hx : ∀ a b, r1 a b → r2 a b) {e : Event} (h : EvOk r1 w e) : EvOk r2 w e := by
  rcases h with ⟨ad, wr, he, a, hr, hc⟩ | ⟨b, he, a, hr, hc⟩ | h
  · exact .inl ⟨ad, wr, he, a, hx _ _ hr, hc⟩
  · exact .inr (.inl ⟨b, he, a, hx _ _ hr, hc⟩)
  · exact .inr (.inr h)

section
variable {P : Program} {S : FuncId → Bool} {r : BR} {α β γ δ : Type}

theorem sr_pure {R : BR → α → β → Prop} {x : α} {y : β} (h : R r x y) : SR P S r R (Pure.pure x) (Pure.pure y) := by
  intro w w' es hw x' w1 hr
  simp only [Sem.run_pure, Result.ok.injEq] at hr
  obtain ⟨rfl, rfl⟩ := hr
  exact ⟨r, y, w', #[], by simp, by simp, h, hw, .refl _, .refl _ _ _, by simp⟩

theorem sr_bind {R : BR → α → β → Prop} {R' : BR → γ → δ → Prop} {s : Sem α} {t : Sem β} {f : α → Sem γ} {g : β → Sem δ} (h : SR P S r R s t)
    (hf : ∀ r1, (∀ a b, r a b → r1 a b) → ∀ x y, R r1 x y → SR P S r1 R' (f x) (g y)) : SR P S r R' (s >>= f) (t >>= g) := by
  intro w w' es hw z w2 hz
  rw [Sem.run_bind] at hz
  cases hs : s.run P w with
  | halt e we => rw [hs] at hz; cases hz
  | ok x w1 =>
    rw [hs] at hz
    obtain ⟨r1, y, w1', l, h1, h2, h3, h4, h5, h6, h7⟩ := h w w' es hw x w1 hs
    obtain ⟨r2, z', w2', l', k1, k2, k3, k4, k5, k6, k7⟩ := hf r1 h6.ext x y h3 w1 w1' (es ++ l) h4 z w2 hz
    refine ⟨r2, z', w2', l ++ l', ?_, ?_, k3, k4, h5.trans k5, h6.trans hw.toHR0 h5 k6, fun e he => ?_⟩
    · rw [Sem.run_bind, h1]; exact k1
    · rw [Sem.events_bind, h1, h2]; simp only [Result.evThen_ok]; rw [k2, Array.append_assoc]
    · rcases Array.mem_append.1 he with he | he
      · exact (h7 e he).ext k6.ext
      · exact (k7 e he).later h5

theorem sr_mono {R R' : BR → α → β → Prop} {s : Sem α} {t : Sem β} (h : SR P S r R s t) (hR : ∀ r1, (∀ a b, r a b → r1 a b) → ∀ x y, R r1 x y → R' r1 x y) : SR P S r R' s t := by
  intro w w' es hw x w1 hs
  obtain ⟨r1, y, w1', l, h1, h2, h3, h4, h5, h6, h7⟩ := h w w' es hw x w1 hs
  exact ⟨r1, y, w1', l, h1, h2, hR r1 h6.ext x y h3, h4, h5, h6, h7⟩

/-- What never comes to an end on the left. -/
def Never (P : Program) (s : Sem α) : Prop := ∀ w x w1, s.run P w ≠ .ok x w1
theorem sr_never {R : BR → α → β → Prop} {s : Sem α} {t : Sem β} (h : Never P s) : SR P S r R s t := fun w _ _ _ x w1 hs => absurd hs (h w x w1)
omit [Shift] in
theorem nv_halt (e : Halt) : Never P (Sem.halt e : Sem α) := fun w x w1 h => by simp [Sem.run] at h
omit [Shift] in
theorem nv_bind {s : Sem α} {f : α → Sem β} (h : Never P s) : Never P (s >>= f) := fun w x w1 hb => by
  rw [Sem.run_bind] at hb
  cases hs : s.run P w with
  | halt e we => rw [hs] at hb; cases hb
  | ok y wy => exact h w y wy hs
omit [Shift] in
theorem nv_bind' {s : Sem α} {f : α → Sem β} (h : ∀ x, Never P (f x)) : Never P (s >>= f) := fun w x w1 hb => by
  rw [Sem.run_bind] at hb
  cases hs : s.run P w with
  | halt e we => rw [hs] at hb; cases hb
  | ok y wy => rw [hs] at hb; exact h y wy x w1 hb
omit [Shift] in
theorem nv_stuck (m : String) : Never P (stuck m : Sem α) := nv_halt _
omit [Shift] in
theorem nv_unsupported (u : Unsupported) : Never P (unsupported u : Sem α) := nv_halt _
omit [Shift] in
theorem nv_goPanic (v : Value) : Never P (goPanic v : Sem α) := nv_halt _
omit [Shift] in
theorem nv_runtimePanic (e : RuntimeError) : Never P (runtimePanic e : Sem α) := by
  unfold Go.runtimePanic
  refine nv_bind' fun p => ?_
  cases e <;> dsimp only <;> first
    | exact nv_goPanic _
    | exact nv_bind' fun _ => nv_bind' fun _ => nv_goPanic _
omit [Shift] in
theorem nv_boundsPanic (k : IntKind) (x y : Int) (c : BoundsCode) : Never P (boundsPanic k x y c : Sem α) := by
  unfold Go.boundsPanic
  dsimp only
  split <;> exact nv_bind' fun _ => nv_runtimePanic _

/-- What neither looks at memory nor turns it, nor asks. -/
def HF (P : Program) (s : Sem α) : Prop := ∀ w x w1, s.run P w = .ok x w1 → w1 = w ∧ ∀ w' es, s.run P w' = .ok x w' ∧ s.events P w' es = es
theorem sr_free {s : Sem α} (h : HF P s) : SR P S r (fun _ x y => y = x) s s := by
  intro w w' es hw x w1 hs
  obtain ⟨rfl, h'⟩ := h w x w1 hs
  exact ⟨r, x, w', #[], (h' w' es).1, by simp [(h' w' es).2], rfl, hw, .refl _, .refl _ _ _, by simp⟩
omit [Shift] in
theorem hf_pure (x : α) : HF P (Pure.pure x) := fun w y w1 h => by
  simp only [Sem.run_pure, Result.ok.injEq] at h
  obtain ⟨rfl, rfl⟩ := h
  exact ⟨rfl, fun w' es => ⟨by simp, by simp⟩⟩
omit [Shift] in
theorem hf_never {s : Sem α} (h : Never P s) : HF P s := fun w x w1 hs => absurd hs (h w x w1)
omit [Shift] in
theorem hf_bind {s : Sem α} {f : α → Sem β} (h : HF P s) (hf : ∀ x, HF P (f x)) : HF P (s >>= f) := fun w x w1 hb => by
  rw [Sem.run_bind] at hb
  cases hs : s.run P w with
  | halt e we => rw [hs] at hb; cases hb
  | ok y wy =>
    rw [hs] at hb
    obtain ⟨rfl, h1⟩ := h w y wy hs
    obtain ⟨rfl, h2⟩ := hf y wy x w1 hb
    exact ⟨rfl, fun w' es => ⟨by rw [Sem.run_bind, (h1 w' es).1]; exact (h2 w' es).1, by rw [Sem.events_bind, (h1 w' es).1, (h1 w' es).2]; exact (h2 w' es).2⟩⟩
omit [Shift] in
theorem hf_program : HF P program := fun w x w1 h => by
  simp only [run_program, Result.ok.injEq] at h
  obtain ⟨rfl, rfl⟩ := h
  exact ⟨rfl, fun w' es => ⟨by simp, by simp⟩⟩
omit [Shift] in
theorem hf_typeInfo (t : TypeId) : HF P (typeInfo t) := hf_bind hf_program fun p => by split; exact hf_pure _; exact hf_never (nv_stuck _)
omit [Shift] in
theorem hf_underlying (t : TypeId) : HF P (underlying t) := hf_bind hf_program fun p => by split; exact hf_pure _; exact hf_never (nv_stuck _)
omit [Shift] in
theorem hf_sizeOf (t : TypeId) : HF P (Go.sizeOf t) := hf_bind (hf_typeInfo t) fun _ => hf_pure _
omit [Shift] in
theorem hf_isAgg (t : TypeId) : HF P (isAgg t) := hf_bind (hf_underlying t) fun d => by split <;> exact hf_pure _
omit [Shift] in
theorem hf_zeroValue (t : TypeId) : HF P (zeroValue t) := hf_bind (hf_typeInfo t) fun i => by split; exact hf_pure _; exact hf_never (nv_unsupported _)

/-- Over what does not hang on the world. -/
theorem sr_bindFree {R' : BR → γ → δ → Prop} {s : Sem α} {f : α → Sem γ} {g : α → Sem δ} (h : HF P s) (hf : ∀ x, (∃ w, s.run P w = .ok x w) → SR P S r R' (f x) (g x)) : SR P S r R' (s >>= f) (s >>= g) := by
  intro w w' es hw z w2 hz
  rw [Sem.run_bind] at hz
  cases hs : s.run P w with
  | halt e we => rw [hs] at hz; cases hz
  | ok x w1 =>
    rw [hs] at hz
    obtain ⟨rfl, h'⟩ := h w x w1 hs
    obtain ⟨r2, z', w2', l', k1, k2, k3, k4, k5, k6, k7⟩ := hf x ⟨_, hs⟩ w1 w' es hw z w2 hz
    exact ⟨r2, z', w2', l', by rw [Sem.run_bind, (h' w' es).1]; exact k1, by rw [Sem.events_bind, (h' w' es).1, (h' w' es).2]; exact k2, k3, k4, k5, k6, k7⟩
omit [Shift] in
/-- .. ahead, on the right alone or on the left alone: not asked for. -/
theorem run_of_free {s : Sem α} (h : HF P s) {w w1 : World} {x : α} (hs : s.run P w = .ok x w1) (w' : World) : s.run P w' = .ok x w' := ((h w x w1 hs).2 w' #[]).1
end

/-! ### memory -/
section
variable {P : Program} {S : FuncId → Bool} {r : BR}

theorem HR0.cell {w w' : World} (h : HR0 S r w w') {a a' : Addr} (x : AR r a a') {v : Value} (hv : w.cell? a = some v) : ∃ v', w'.cell? a' = some v' ∧ VR S r v v' := by
  obtain ⟨o, o', h1, h2, h3⟩ := h.obj x.block
  unfold World.cell? at hv ⊢
  rw [h1] at hv
  rw [h2]
  cases h3 with
  | cells e hn rr _ =>
    have hoff : a'.off = a.off := by rw [x.off, shf_new hn]; rfl
    simp only [x.spot, hoff] at hv ⊢
    split at hv
    · cases hv
    · rename_i hs
      rw [if_neg hs]
      exact rr.get hv
  | win e hn rr _ _ =>
    simp only [x.spot, x.off] at hv ⊢
    split at hv
    · cases hv
    · rename_i hs
      rw [if_neg hs]
      exact rr _ _ hv
  | inert _ _ _ _ => cases hv
  | number _ _ _ => cases hv
theorem HR0.frozen {w w' : World} (h : HR0 S r w w') {a a' : Addr} (x : AR r a a') {v : Value} (hv : w.cell? a = some v) (hf : w.frozen? a = false) : w'.frozen? a' = false := by
  obtain ⟨o, o', h1, h2, h3⟩ := h.obj x.block
  cases h3 with
  | cells e hn rr hz =>
    have hoff : a'.off = a.off := by rw [x.off, shf_new hn]; rfl
    cases hb : w'.frozen? a' with
    | false => rfl
    | true =>
      have := (frozen_iff h1).2 (hoff ▸ hz _ ((frozen_iff h2).1 hb))
      rw [hf] at this; cases this
  | @win c c' e f f' hn rr hz hz2 =>
    have hlt : a.off < c.size := by
      unfold World.cell? at hv
      rw [h1] at hv
      dsimp only at hv
      split at hv
      · cases hv
      · exact (Array.getElem?_eq_some_iff.1 hv).1
    rw [(frozen_iff h1).2 (hz _ (Nat.le_of_lt hlt))] at hf; cases hf
  | inert _ _ _ _ => simp [World.cell?, h1] at hv
  | number _ _ _ => simp [World.cell?, h1] at hv

/-- A load that there is: from a cell. -/
theorem load_cell {m : Mode} {a a' : Addr} {w w' w1 : World} (h : HR S r w w') (x : AR r a a') {v : Value} (hl : (load a m).run P w = .ok v w1) : w1 = w ∧ w.cell? a = some v := by
  unfold load Sem.run at hl
  cases hc : w.cell? a with
  | some u =>
    rw [hc] at hl
    simp only [Sem.run, Result.ok.injEq] at hl
    exact ⟨hl.2.symm, by rw [hl.1]⟩
  | none =>
    rw [hc] at hl
    obtain ⟨o, o', h1, h2, h3⟩ := h.obj x.block
    have : w.farLoad P a (m == .atomic) = .error (w.noCell a "load: no such cell") := by
      unfold World.farLoad
      rw [h1]
      cases h3 <;> rfl
    rw [this] at hl
    cases hl

theorem sr_load {a a' : Addr} (x : AR r a a') : SR P S r (fun r1 v v' => VR S r1 v v') (load a) (load a') := by
  intro w w' es hw v w1 hl
  obtain ⟨rfl, hc⟩ := load_cell hw x hl
  obtain ⟨v', hc', hv⟩ := hw.cell x hc
  refine ⟨r, v', w', #[⟨.cell a', false, false⟩], by unfold Go.load Sem.run; rw [hc']; rfl, by rw [events_load, hc']; rfl, hv, hw, .refl _, .refl _ _ _, fun e he => ?_⟩
  simp at he
  subst he
  refine .inl ⟨a', false, rfl, a.block, x.block, fun _ => ⟨?_, by simp⟩⟩
  unfold World.cell? at hc
  split at hc
  · exact ⟨_, _, _, by assumption⟩
  · cases hc

omit [Shift] in
theorem heap_setCell (w : World) (a : Addr) (v : Value) (b : Nat) : (w.setCell a v).heap[b]? = if b = a.block then (w.heap[b]?).map fun
      | .cells c elem frozen => .cells (if a.spot.isSome then c else c.setIfInBounds a.off v) elem frozen
      | o => o else w.heap[b]? := by
  unfold World.setCell
  simp only [Array.getElem?_modify]
  split
  · rename_i h
    subst h
    rw [if_pos rfl]
    cases w.heap[a.block]? with
    | none => rfl
    | some o => cases o <;> rfl
  · rename_i h; rw [if_neg (fun e => h e.symm)]

theorem sr_store {a a' : Addr} (x : AR r a a') {v v' : Value} (hv : VR S r v v') : SR P S r (fun _ _ _ => True) (store a v) (store a' v') := by
  intro w w' es hw u w1 hs
  have key : v.oneCell' = true ∧ v'.oneCell' = true ∧ (∃ u, w.cell? a = some u) ∧ w.frozen? a = false ∧ w1 = w.setCell a v := by
    have one : v.oneCell' = true → v'.oneCell' = true := fun h => by cases hv <;> first | rfl | (simp [Value.oneCell'] at h)
    have hone : v.oneCell' = true := by
      cases v <;> first | rfl | (simp [Go.store, Sem.run] at hs)
    have hs' : (match w.cell? a with
      | some _ => if w.frozen? a then Result.halt (.unsupported (.unsafePointer "a write to bytes that a string shares")) w else Result.ok () (w.setCell a v)
      | none => match w.farStore P a v ((Mode.plain : Mode) == .atomic) with
        | .ok (w, _) => Result.ok () w
        | .error h => Result.halt h w) = Result.ok u w1 := by
      rw [← hs]
      cases v <;> first | (simp [Value.oneCell'] at hone; done) | (simp only [Go.store, Sem.run]; rfl)
    cases hc : w.cell? a with
    | some y =>
      rw [hc] at hs'
      simp only at hs'
      split at hs'
      · cases hs'
      · rename_i hf
        cases hs'
        exact ⟨hone, one hone, ⟨y, rfl⟩, by simpa using hf, rfl⟩
    | none =>
      rw [hc] at hs'
      obtain ⟨o, o', h1, h2, h3⟩ := hw.obj x.block
      have : w.farStore P a v ((Mode.plain : Mode) == .atomic) = .error (w.noCell a "store: no such cell") := by
        unfold World.farStore
        rw [h1]
        cases h3 <;> rfl
      rw [this] at hs'
      cases hs'
  obtain ⟨hone, hone', ⟨y, hc⟩, hf, rfl⟩ := key
  obtain ⟨y', hc', _⟩ := hw.cell x hc
  have hf' := hw.frozen x hc hf
  have hspot : a.spot.isSome = false := by
    unfold World.cell? at hc
    split at hc
    · split at hc
      · cases hc
      · rename_i h; simpa using h
    · cases hc
  have hspot' : a'.spot.isSome = false := by rw [x.spot]; exact hspot
  obtain ⟨o, o', h1, h2, h3⟩ := hw.obj x.block
  obtain ⟨c, e, f, rfl⟩ : ∃ c e f, o = .cells c e f := by
    cases h3 with
    | cells e _ _ _ => exact ⟨_, _, _, rfl⟩
    | win e _ _ _ _ => exact ⟨_, _, _, rfl⟩
    | inert _ _ _ _ => simp [World.cell?, h1] at hc
    | number _ _ _ => simp [World.cell?, h1] at hc
  obtain ⟨c', f', hn3, rfl⟩ : ∃ c' f', Shift.n ≤ a.block ∧ o' = .cells c' e f' := by
    cases h3 with
    | cells _ hn _ _ => exact ⟨_, _, hn, rfl⟩
    | win _ _ _ hz _ =>
      have hlt : a.off < c.size := by
        unfold World.cell? at hc
        rw [h1] at hc
        simp only [hspot] at hc
        exact (Array.getElem?_eq_some_iff.1 hc).1
      rw [(frozen_iff h1).2 (hz _ (Nat.le_of_lt hlt))] at hf; cases hf
  have hoff : a'.off = a.off := by rw [x.off, shf_new hn3]; rfl
  have hsz : c.size = c'.size := by
    cases h3 with
    | cells _ _ rr _ => exact rr.size
    | win _ hlt _ _ _ => omega
  have hlt : a.off < c.size := by
    unfold World.cell? at hc
    rw [h1] at hc
    simp only [hspot] at hc
    exact (Array.getElem?_eq_some_iff.1 hc).1
  have hwr : Wr w a.block a.off := ⟨c, e, f, h1, hlt, fun z => by rw [(frozen_iff h1).2 z] at hf; cases hf⟩
  refine ⟨r, (), w'.setCell a' v', #[⟨.cell a', true, false⟩], ?_, ?_, trivial, ?_, ?_, ?_, fun ev hev => ?_⟩
  · cases v' <;> first | (simp [Value.oneCell'] at hone'; done) | (simp only [Go.store, Sem.run, hc', hf']; rfl)
  · rw [events_store P w' es a' v' .plain hone', hc', hf']
    simp
    rfl
  · refine ⟨⟨hw.fn, hw.inj, fun {p q} hpq => ?_, by simp [World.setCell]; exact hw.low⟩, hw.tape⟩
    obtain ⟨u, u', k1, k2, k3⟩ := hw.obj hpq
    rw [heap_setCell, heap_setCell]
    by_cases hp : p = a.block
    · subst hp
      obtain rfl : q = a'.block := hw.fn hpq x.block
      rw [if_pos rfl, if_pos rfl, h1, h2]
      refine ⟨_, _, rfl, rfl, ?_⟩
      simp only [hspot, hspot', Bool.false_eq_true, if_false, hoff]
      cases h3 with
      | cells _ hn rr hz hf => exact .cells e hn (rr.set hv _) hz hf
      | win _ hlt _ _ _ => omega
    · have hq : q ≠ a'.block := fun e => by
        rcases hw.inj hpq (e ▸ x.block) with h | ⟨_, h⟩
        · exact hp h
        · omega
      rw [if_neg hp, if_neg hq]
      exact ⟨u, u', k1, k2, k3⟩
  · refine ⟨by simp [World.setCell], fun b c0 e0 f0 hb hc0 => ?_, fun b c0 e0 f0 hc0 => ?_, fun b o ho hn => ?_⟩
    · rw [heap_setCell] at hc0
      split at hc0
      · rename_i hbe
        subst hbe
        rw [h1] at hc0
        simp only [hspot, Bool.false_eq_true, if_false, Option.map_some, Option.some.injEq, Obj.cells.injEq] at hc0
        obtain ⟨rfl, rfl, rfl⟩ := hc0
        exact ⟨c, h1, by simp⟩
      · exact ⟨c0, hc0, rfl⟩
    · rw [heap_setCell]
      split
      · rename_i hbe
        subst hbe
        rw [hc0]
        exact ⟨_, rfl⟩
      · exact ⟨c0, hc0⟩
    · rw [heap_setCell]
      split
      · rename_i hbe
        subst hbe
        rw [ho]
        cases o <;> first | rfl | exact absurd rfl (hn _ _ _)
      · exact ho
  · refine ⟨fun _ _ h => h, fun _ _ h => .inl h, rfl, rfl, rfl, by simp [World.setCell], fun b hb hn => ?_, fun b c0 e0 f0 hb => ?_⟩
    · rw [heap_setCell]
      split
      · rename_i hbe
        subst hbe
        exact absurd hwr (hn _ _ x.block)
      · rfl
    · rw [heap_setCell]
      split
      · rename_i hbe
        subst hbe
        rw [h2] at hb
        simp only [Option.some.injEq, Obj.cells.injEq] at hb
        obtain ⟨rfl, rfl, rfl⟩ := hb
        rw [h2]
        refine ⟨_, rfl, by simp [hspot'], fun o hn => ?_⟩
        simp only [hspot', Bool.false_eq_true, if_false, Array.getElem?_setIfInBounds]
        split
        · rename_i ho
          subst ho
          exact absurd (hoff ▸ hwr) (hn _ x.block)
        · rfl
      · exact ⟨c0, hb, rfl, fun _ _ => rfl⟩
  · simp at hev
    subst hev
    exact .inl ⟨a', true, rfl, a.block, x.block, fun _ => ⟨⟨c, e, f, h1⟩, fun _ => hoff ▸ hwr⟩⟩

/-- A new block. -/
theorem sr_newObj {o o' : Obj} (hno : ∀ r1, (∀ p q, r p q → r1 p q) → ∀ a, Shift.n ≤ a → OR S r1 a o o') : SR P S r (fun r1 a a' => r1 a a' ∧ Shift.n ≤ a) (newObj o) (newObj o') := by
  intro w w' es hw a w1 hs
  simp only [run_newObj, Result.ok.injEq] at hs
  obtain ⟨rfl, rfl⟩ := hs
  let r1 : BR := fun p q => r p q ∨ (p = w.heap.size ∧ q = w'.heap.size)
  have hx : ∀ p q, r p q → r1 p q := fun p q h => .inl h
  refine ⟨r1, w'.heap.size, { w' with heap := w'.heap.push o' }, #[], by simp only [run_newObj], by simp, ⟨.inr ⟨rfl, rfl⟩, hw.low⟩, ?_, ?_, ?_, by simp⟩
  · refine ⟨⟨fun {p q t} h k => ?_, fun {p q t} h k => ?_, fun {p q} h => ?_, by simp; have := hw.low; omega⟩, hw.tape⟩
    · rcases h with h | ⟨h1, h2⟩ <;> rcases k with k | ⟨k1, k2⟩
      · exact hw.fn h k
      · have := (hw.lt h).1; omega
      · have := (hw.lt k).1; omega
      · omega
    · rcases h with h | ⟨h1, h2⟩ <;> rcases k with k | ⟨k1, k2⟩
      · exact hw.inj h k
      · have := (hw.lt h).2; omega
      · have := (hw.lt k).2; omega
      · exact .inl (by omega)
    · rcases h with h | ⟨rfl, rfl⟩
      · obtain ⟨u, u', h1, h2, h3⟩ := hw.obj h
        have := hw.lt h
        refine ⟨u, u', ?_, ?_, h3.mono hx⟩
        · simp only [Array.getElem?_push]; rw [if_neg (by omega)]; exact h1
        · simp only [Array.getElem?_push]; rw [if_neg (by omega)]; exact h2
      · exact ⟨o, o', by simp, by simp, hno r1 hx _ hw.low⟩
  · refine ⟨by simp, fun b c0 e0 f0 hb hc => ⟨c0, ?_, rfl⟩, fun b c0 e0 f0 hc => ⟨c0, ?_⟩, fun b u hu _ => ?_⟩
    · simp only [Array.getElem?_push] at hc
      rw [if_neg (by omega)] at hc
      exact hc
    · have := (Array.getElem?_eq_some_iff.1 hc).1
      simp only [Array.getElem?_push]; rw [if_neg (by omega)]; exact hc
    · have := (Array.getElem?_eq_some_iff.1 hu).1
      simp only [Array.getElem?_push]; rw [if_neg (by omega)]; exact hu
  · refine ⟨hx, fun p q h => ?_, rfl, rfl, rfl, by simp, fun b hb _ => ?_, fun b c0 e0 f0 hb => ⟨c0, ?_, rfl, fun _ _ => rfl⟩⟩
    · rcases h with h | ⟨rfl, rfl⟩
      · exact .inl h
      · exact .inr ⟨Nat.le_refl _, by simp, Nat.le_refl _⟩
    · simp only [Array.getElem?_push]; rw [if_neg (by omega)]
    · have := (Array.getElem?_eq_some_iff.1 hb).1
      simp only [Array.getElem?_push]; rw [if_neg (by omega)]; exact hb
/-- A new row. -/
theorem sr_newRow (e : TypeId) {c c' : Array Value} (rr : RR S r c c') : SR P S r (fun r1 a a' => AR r1 a a') (newRow e c) (newRow e c') :=
  sr_bind (sr_newObj fun _ hx a ha => .cells e ha (rr.mono hx) (fun _ h => h) rfl) fun _ _ _ _ h => sr_pure ⟨h.1, by simp [shf_new h.2], rfl⟩

/-- What is asked of the tape: on both sides the same. -/
theorem sr_choose (q : Question) : SR P S r (fun _ x y => y = x) (choose q) (choose q) := by
  intro w w' es hw x w1 hs
  unfold Go.choose Sem.run at hs
  split at hs
  · rename_i hq
    simp only [Sem.run, Result.ok.injEq] at hs
    obtain ⟨rfl, rfl⟩ := hs
    exact ⟨r, 0, w', #[], by unfold Go.choose Sem.run; rw [if_pos hq]; rfl, by simp, rfl, hw, .refl _, .refl _ _ _, by simp⟩
  · rename_i hq
    simp only [Sem.run, Result.ok.injEq] at hs
    obtain ⟨rfl, rfl⟩ := hs
    have ht : w'.tape w'.drawn q = w.tape w.drawn q := (hw.tape 0 q).symm
    refine ⟨r, _, { w' with drawn := w'.drawn + 1 }, #[], by unfold Go.choose Sem.run; rw [if_neg hq]; rfl, by simp, by rw [ht], ⟨⟨hw.fn, hw.inj, hw.obj, hw.low⟩, fun n q' => ?_⟩, .of_heap rfl, .of_heap _ rfl rfl rfl rfl, by simp⟩
    have := hw.tape (1 + n) q'
    simpa only [← Nat.add_assoc] using this

theorem sr_noRoom : SR P S r (fun _ _ _ => True) (mark .noRoom) (mark .noRoom) := by
  intro w w' es hw x w1 hs
  simp only [run_mark, Result.ok.injEq] at hs
  obtain ⟨_, rfl⟩ := hs
  exact ⟨r, (), w', #[⟨.mark .noRoom, false, true⟩], by simp, by simp, trivial, hw, .refl _, .refl _ _ _, fun e he => by simp at he; exact .inr (.inr (.inl he))⟩
theorem sr_markExtern (f : FuncId) : SR P S r (fun _ _ _ => True) (mark (.extern f)) (mark (.extern f)) := by
  intro w w' es hw x w1 hs
  simp only [run_mark, Result.ok.injEq] at hs
  obtain ⟨_, rfl⟩ := hs
  exact ⟨r, (), w', #[⟨.mark (.extern f), false, true⟩], by simp, by simp, trivial, hw, .refl _, .refl _ _ _, fun e he => by simp at he; exact .inr (.inr (.inr ⟨f, he⟩))⟩
theorem sr_askRoom (n : Nat) : SR P S r (fun _ _ _ => True) (askRoom n) (askRoom n) := by
  unfold Go.askRoom
  split
  · exact sr_noRoom
  · exact sr_pure trivial
end

end Go.Proofs.Ytcobehkadhcjiaa

/-
  THE OPERATIONS, EACH CARRIED OUT ALONE AND AMONG OTHERS.
-/
namespace Go.Proofs.Ytcobehkadhcjiaa
open Go
variable [Shift]

section
variable {P : Program} {S : FuncId → Bool} {r : BR}

theorem sr_asIntOf {v v' : Value} (h : VR S r v v') : SR P S r (fun _ x y => y = x) (asIntOf v) (asIntOf v') := by
  cases h <;> first | exact sr_pure rfl | exact sr_never (nv_stuck _) | exact sr_never (nv_unsupported _)
theorem sr_asInt {v v' : Value} (h : VR S r v v') : SR P S r (fun _ x y => y = x) (asInt v) (asInt v') :=
  sr_bind (sr_asIntOf h) fun _ _ _ _ e => by subst e; exact sr_pure rfl
theorem sr_asBool {v v' : Value} (h : VR S r v v') : SR P S r (fun _ x y => y = x) (asBool v) (asBool v') := by
  cases h <;> first | exact sr_pure rfl | exact sr_never (nv_stuck _)
theorem sr_sureAddr {v v' : Value} (h : VR S r v v') : SR P S r (fun r1 x y => AR r1 x y) (Instr.sureAddr v) (Instr.sureAddr v') := by
  cases h <;> first | (rename_i a; exact sr_pure a) | exact sr_never (nv_stuck _)
theorem sr_asAddr {v v' : Value} (h : VR S r v v') : SR P S r (fun r1 x y => AR r1 x y) (asAddr v) (asAddr v') := by
  cases h <;> first | (rename_i a; exact sr_pure a) | exact sr_never (nv_stuck _) | exact sr_never (nv_runtimePanic .nilDeref)
theorem sr_asAgg {v v' : Value} (h : VR S r v v') : SR P S r (fun r1 x y => RR S r1 x y) (asAgg v) (asAgg v') := by
  cases h <;> first | exact sr_pure ⟨by assumption, by assumption⟩ | exact sr_never (nv_stuck _)
theorem sr_lenOf {v v' : Value} (h : VR S r v v') : SR P S r (fun _ x y => y = x) (Builtin.lenOf v) (Builtin.lenOf v') := by
  cases h <;> first | exact sr_pure rfl | exact sr_never (nv_stuck _)

theorem sr_loadCellsFrom {a a' : Addr} (i : Nat) : ∀ (n : Nat) {r : BR}, AR r a a' → ∀ {c c' : Array Value}, RR S r c c' → SR P S r (fun r1 x y => RR S r1 x y) (loadCellsFrom a i n c) (loadCellsFrom a' i n c')
  | 0, r, x, c, c', h => sr_pure h
  | n + 1, r, x, c, c', h => by
    unfold Go.loadCellsFrom
    exact sr_bind (sr_load (x.add i)) fun r1 hx v v' hv => sr_loadCellsFrom (i + 1) n (x.mono hx) ((h.mono hx).push hv)
theorem sr_loadCells {a a' : Addr} (x : AR r a a') (n : Nat) : SR P S r (fun r1 x y => RR S r1 x y) (loadCells a n) (loadCells a' n) := sr_loadCellsFrom 0 n x RR.nil

theorem sr_storeCells {a a' : Addr} : ∀ (vs vs' : List Value) (i : Nat) {r : BR}, AR r a a' → vs.length = vs'.length → (∀ (j : Nat) v v', vs[j]? = some v → vs'[j]? = some v' → VR S r v v') →
    SR P S r (fun _ _ _ => True) (storeCells a vs i) (storeCells a' vs' i)
  | [], [], i, r, x, _, _ => sr_pure trivial
  | v :: vs, v' :: vs', i, r, x, hl, h => by
    unfold Go.storeCells
    exact sr_bind (sr_store (x.add i) (h 0 v v' rfl rfl)) fun r1 hx _ _ _ => sr_storeCells vs vs' (i + 1) (x.mono hx) (by simpa using hl) (fun j u u' hu hu' => (h (j + 1) u u' hu hu').mono hx)
  | [], _ :: _, _, _, _, hl, _ => by simp at hl
  | _ :: _, [], _, _, _, hl, _ => by simp at hl
theorem sr_storeCells' {a a' : Addr} (x : AR r a a') {c c' : Array Value} (h : RR S r c c') : SR P S r (fun _ _ _ => True) (storeCells a c.toList) (storeCells a' c'.toList) := by
  refine sr_storeCells _ _ 0 x (by simp [h.size]) (fun j u u' hu hu' => ?_)
  have e1 : c[j]? = some u := by simpa using hu
  have e2 : c'[j]? = some u' := by simpa using hu'
  obtain ⟨z, hz, hr⟩ := h.get e1
  rw [e2] at hz; cases hz; exact hr

theorem sr_loadVar (t : TypeId) {a a' : Addr} (x : AR r a a') : SR P S r (fun r1 v v' => VR S r1 v v') (loadVar t a) (loadVar t a') := by
  unfold Go.loadVar
  refine sr_bindFree (hf_isAgg t) fun b _ => ?_
  split
  · refine sr_bindFree (hf_sizeOf t) fun n _ => ?_
    exact sr_bind (sr_loadCells x n) fun _ _ _ _ h => sr_pure (VR.agg' h)
  · exact sr_load x
theorem sr_storeVar (t : TypeId) {a a' : Addr} (x : AR r a a') {v v' : Value} (h : VR S r v v') : SR P S r (fun _ _ _ => True) (storeVar t a v) (storeVar t a' v') := by
  unfold Go.storeVar
  refine sr_bindFree (hf_sizeOf t) fun n _ => ?_
  rw [← h.cells.size]
  split
  · exact sr_never (nv_stuck _)
  · exact sr_storeCells' x h.cells

/-- The zero of a type bears no address. -/
def okZero (P : Program) (S : FuncId → Bool) (t : TypeId) : Bool := match P.info? t with
  | some i => i.zero.all (flatB S 3)
  | none => true
omit [Shift] in
theorem zero_flat {t : TypeId} (h : okZero P S t = true) {v : Value} {w w1 : World} (hr : (zeroValue t).run P w = .ok v w1) : Flat S v := by
  unfold zeroValue typeInfo at hr
  simp only [Sem.run_bind, run_program, Result.andThen_ok] at hr
  unfold okZero at h
  cases hi : P.info? t with
  | none => rw [hi] at hr; simp [stuck] at hr
  | some i =>
    rw [hi] at hr h
    simp only [Sem.run_pure, Result.andThen_ok] at hr
    dsimp only at h
    cases hz : i.zero with
    | none => rw [hz] at hr; simp [unsupported] at hr
    | some z =>
      rw [hz] at hr h
      simp only [Sem.run_pure, Result.ok.injEq, Option.all_some] at hr h
      exact hr.1 ▸ flat_of 3 z h
theorem sr_zeroValue {t : TypeId} (h : okZero P S t = true) : SR P S r (fun r1 v v' => VR S r1 v v') (zeroValue t) (zeroValue t) := by
  intro w w' es hw v w1 hr
  obtain ⟨rfl, h'⟩ := hf_zeroValue t w v w1 hr
  exact ⟨r, v, w', #[], (h' w' es).1, by simp [(h' w' es).2], (zero_flat h hr).vr, hw, .refl _, .refl _ _ _, by simp⟩

theorem sr_newVar (t : TypeId) {v v' : Value} (h : VR S r v v') : SR P S r (fun r1 a a' => AR r1 a a') (newVar t v) (newVar t v') := sr_newRow t h.cells

/-! ### what an operation yields -/
inductive NR (S : FuncId → Bool) (r : BR) : Next → Next → Prop
  | value {v v' : Value} : VR S r v v' → NR S r (.value v) (.value v')
  | skip : NR S r .skip .skip
  | enter {f : FuncId} {a a' : Array Value} : S f = true → RR S r a a' → NR S r (.enter f a) (.enter f a')

theorem sr_v {s t : Sem Value} (h : SR P S r (fun r1 v v' => VR S r1 v v') s t) : SR P S r (fun r1 n n' => NR S r1 n n') (do pure (Next.value (← s))) (do pure (Next.value (← t))) :=
  sr_bind h fun _ _ _ _ hv => sr_pure (.value hv)
theorem sr_u {s t : Sem Unit} (h : SR P S r (fun _ _ _ => True) s t) : SR P S r (fun r1 n n' => NR S r1 n n') (do s; pure Next.skip) (do t; pure Next.skip) :=
  sr_bind h fun _ _ _ _ _ => sr_pure .skip

theorem sr_alloc {t : TypeId} (hz : okZero P S t = true) : SR P S r (fun r1 v v' => VR S r1 v v') (Instr.alloc t true (.tuple #[])) (Instr.alloc t true (.tuple #[])) := by
  unfold Instr.alloc
  refine sr_bind (sr_zeroValue hz) fun r1 _ z z' h => ?_
  exact sr_bind (sr_newVar t h) fun _ _ _ _ a => sr_pure (.ptr a)
theorem sr_box (t : TypeId) {v v' : Value} (h : VR S r v v') : SR P S r (fun r1 v v' => VR S r1 v v') (Instr.box t v) (Instr.box t v') :=
  sr_bind (sr_newVar t h) fun _ _ _ _ a => sr_pure (.ptr a)

theorem RR.foldSet {c c' : Array Value} (h : RR S r c c') (off : Nat) : ∀ (l l' : List (Value × Nat)), l.length = l'.length → (∀ (j : Nat) x x', l[j]? = some x → l'[j]? = some x' → VR S r x.1 x'.1 ∧ x'.2 = x.2) →
    RR S r (l.foldl (fun cs x => cs.setIfInBounds (off + x.2) x.1) c) (l'.foldl (fun cs x => cs.setIfInBounds (off + x.2) x.1) c')
  | [], [], _, _ => h
  | x :: l, x' :: l', hl, hr => by
    simp only [List.foldl_cons]
    obtain ⟨h1, h2⟩ := hr 0 x x' rfl rfl
    rw [h2]
    exact RR.foldSet (h.set h1 _) off l l' (by simpa using hl) fun j u u' hu hu' => hr (j + 1) u u' hu hu'
  | [], _ :: _, hl, _ => by simp at hl
  | _ :: _, [], hl, _ => by simp at hl

theorem RR.fill {place : Nat → Option (Nat × Nat)} : ∀ (l l' : List (Nat × Value)) {c c' d : Array Value}, RR S r c c' → l.length = l'.length → (∀ (j : Nat) x x', l[j]? = some x → l'[j]? = some x' → x'.1 = x.1 ∧ VR S r x.2 x'.2) →
    Instr.fill place c l = some d → ∃ d', Instr.fill place c' l' = some d' ∧ RR S r d d'
  | [], [], c, c', d, h, _, _, hd => by
    simp only [Instr.fill, Option.some.injEq] at hd ⊢
    exact ⟨_, rfl, hd ▸ h⟩
  | (i, v) :: l, (i', v') :: l', c, c', d, h, hl, hr, hd => by
    obtain ⟨h1, h2⟩ := hr 0 _ _ rfl rfl
    simp only at h1 h2
    subst h1
    unfold Instr.fill at hd ⊢
    cases hp : place i' with
    | none => rw [hp] at hd; cases hd
    | some p =>
      obtain ⟨off, size⟩ := p
      rw [hp] at hd
      simp only at hd ⊢
      rw [← h2.cells.size, ← h.size]
      split at hd
      · cases hd
      · rename_i hc
        rw [if_neg hc]
        rw [← Array.foldl_toList] at hd ⊢
        refine RR.fill l l' (RR.foldSet h off v.cells.zipIdx.toList v'.cells.zipIdx.toList (by simp [h2.cells.size]) fun j x x' hx hx' => ?_) (by simpa using hl) (fun j u u' hu hu' => hr (j + 1) u u' hu hu') hd
        have e1 : v.cells.zipIdx[j]? = some x := by simpa using hx
        have e2 : v'.cells.zipIdx[j]? = some x' := by simpa using hx'
        rw [Array.getElem?_zipIdx] at e1 e2
        obtain ⟨y, hy, rfl⟩ := Option.map_eq_some_iff.1 e1
        obtain ⟨y', hy', rfl⟩ := Option.map_eq_some_iff.1 e2
        obtain ⟨z, hz, hzr⟩ := h2.cells.get hy
        rw [hy'] at hz; cases hz
        exact ⟨hzr, rfl⟩
  | [], _ :: _, _, _, _, _, hl, _, _ => by simp at hl
  | _ :: _, [], _, _, _, _, hl, _, _ => by simp at hl

/-- Parts: numbered values. -/
structure PR (S : FuncId → Bool) (r : BR) (l l' : Array (Nat × Value)) : Prop where
  len : l.toList.length = l'.toList.length
  at_ : ∀ (j : Nat) x x', l.toList[j]? = some x → l'.toList[j]? = some x' → x'.1 = x.1 ∧ VR S r x.2 x'.2

omit [Shift] in
theorem hf_mapM {α β : Type} {f : α → Sem β} (h : ∀ x, HF P (f x)) : ∀ l : List α, HF P (l.mapM f)
  | [] => by rw [List.mapM_nil]; exact hf_pure _
  | x :: l => by
    rw [List.mapM_cons]
    exact hf_bind (h x) fun _ => hf_bind (hf_mapM h l) fun _ => hf_pure _

theorem sr_build {t : TypeId} (hz : okZero P S t = true) {l l' : Array (Nat × Value)} (h : PR S r l l') : SR P S r (fun r1 v v' => VR S r1 v v') (Instr.build t l) (Instr.build t l') := by
  unfold Instr.build
  refine sr_bind (sr_zeroValue hz) fun r1 hx z z' hzz => ?_
  have h1 : PR S r1 l l' := ⟨h.len, fun j x x' e e' => ⟨(h.at_ j x x' e e').1, (h.at_ j x x' e e').2.mono hx⟩⟩
  refine sr_bindFree (hf_underlying t) fun d _ => ?_
  cases d <;> dsimp only <;> first | exact sr_never (nv_stuck _) | skip
  · rename_i len elem _
    refine sr_bindFree (hf_sizeOf elem) fun n _ => ?_
    cases hf : Instr.fill (fun i => some (i * n, n)) z.cells l.toList with
    | none => exact sr_never (nv_stuck _)
    | some d =>
      obtain ⟨d', e, hr⟩ := RR.fill _ _ hzz.cells h1.len h1.at_ hf
      rw [e]
      exact sr_pure (VR.agg' hr)
  · rename_i fields _
    refine sr_bindFree (s := fields.mapM fun f => do pure (f.offset, ← Go.sizeOf f.type)) ?_ fun places _ => ?_
    · rw [Array.mapM_eq_mapM_toList]
      exact hf_bind (hf_mapM (fun f => hf_bind (hf_sizeOf _) fun _ => hf_pure _) _) fun _ => hf_pure _
    · cases hf : Instr.fill (places[·]?) z.cells l.toList with
      | none => exact sr_never (nv_stuck _)
      | some d =>
        obtain ⟨d', e, hr⟩ := RR.fill _ _ hzz.cells h1.len h1.at_ hf
        rw [e]
        exact sr_pure (VR.agg' hr)

theorem RR.cycle {c c' : Array Value} (h : RR S r c c') (n : Nat) (hd : VR S r (default : Value) (default : Value)) : RR S r ((Array.range n).map fun i => c[i % c.size]!) ((Array.range n).map fun i => c'[i % c'.size]!) := by
  refine RR.map _ _ _ fun i _ => ?_
  rw [← h.size]
  by_cases hi : i % c.size < c.size
  · have hi' : i % c.size < c'.size := by rw [← h.size]; exact hi
    rw [getElem!_pos c _ hi, getElem!_pos c' _ hi']
    exact h.at_ _ hi hi'
  · have hi' : ¬ i % c.size < c'.size := by rw [← h.size]; exact hi
    rw [getElem!_neg c _ hi, getElem!_neg c' _ hi']
    exact hd
theorem VR.default : VR S r (default : Value) (default : Value) := .bool _

theorem sr_buildSlice {t : TypeId} (hz : ∀ e, P.underlying t = some (.slice e) → okZero P S e = true) (n : Nat) {l l' : Array (Nat × Value)} (h : PR S r l l') :
    SR P S r (fun r1 v v' => VR S r1 v v') (Instr.buildSlice t n l) (Instr.buildSlice t n l') := by
  unfold Instr.buildSlice
  refine sr_bindFree (hf_underlying t) fun d hd => ?_
  cases d <;> dsimp only <;> first | exact sr_never (nv_stuck _) | skip
  rename_i elem
  have hze : okZero P S elem = true := by
    obtain ⟨w, hw⟩ := hd
    refine hz elem ?_
    unfold underlying at hw
    simp only [Sem.run_bind, run_program, Result.andThen_ok] at hw
    cases hu : P.underlying t with
    | none => rw [hu] at hw; simp [stuck] at hw
    | some u => rw [hu] at hw; simp at hw; rw [hw]
  refine sr_bindFree (hf_sizeOf elem) fun size _ => ?_
  split
  · exact sr_never (nv_bind (nv_unsupported _))
  have tail : ∀ r1, (∀ a b, r a b → r1 a b) → ∀ c c' : Array Value, RR S r1 c c' → SR P S r1 (fun r1 v v' => VR S r1 v v')
      (match Instr.fill (fun i => some (i * size, size)) (Array.map (fun x => c[x % c.size]!) (Array.range (n * size))) l.toList with
        | some cells => newRow elem cells >>= fun a => pure (Value.slice (some a) n n)
        | _ => stuck "buildSlice: a part of the wrong size")
      (match Instr.fill (fun i => some (i * size, size)) (Array.map (fun x => c'[x % c'.size]!) (Array.range (n * size))) l'.toList with
        | some cells => newRow elem cells >>= fun a => pure (Value.slice (some a) n n)
        | _ => stuck "buildSlice: a part of the wrong size") := fun r1 hx c c' hc => by
    have h1 : PR S r1 l l' := ⟨h.len, fun j x x' e e' => ⟨(h.at_ j x x' e e').1, (h.at_ j x x' e e').2.mono hx⟩⟩
    cases hf : Instr.fill (fun i => some (i * size, size)) ((Array.range (n * size)).map (c[· % c.size]!)) l.toList with
    | none => exact sr_never (nv_stuck _)
    | some d =>
      obtain ⟨d', e, hr⟩ := RR.fill _ _ (hc.cycle _ VR.default) h1.len h1.at_ hf
      rw [e]
      exact sr_bind (sr_newRow elem hr) fun _ _ _ _ a => sr_pure (.slice _ _ a)
  split
  · exact sr_bind (sr_pure RR.nil) tail
  · exact sr_bind (sr_zeroValue hze) fun r1 hx z z' hzz => sr_bind (sr_pure hzz.cells) fun r2 hx2 c c' hc => tail r2 (fun a b y => hx2 a b (hx a b y)) c c' hc
end

end Go.Proofs.Ytcobehkadhcjiaa
