/-
  Lines, plain: of each kind its word and the fields that it names; a step as eight numbers; its line.
-/
import Derived.Lib.ItoaNum
namespace Go.Proofs.YtaimgddhbkcikapDoor.Plain

/-- A step: its eight numbers (Kind, Who, Item, Count, Life, Id, Label, Key). -/
structure Sp where
  (kd wh it ct lf id lb ky : Int)
deriving DecidableEq, Inhabited

def Sp.at (s : Sp) : Nat → Int
  | 0 => s.kd | 1 => s.wh | 2 => s.it | 3 => s.ct | 4 => s.lf | 5 => s.id | 6 => s.lb | 7 => s.ky | _ => 0
/-- Field i is made 0. -/
def Sp.out (s : Sp) : Nat → Sp
  | 1 => { s with wh := 0 } | 2 => { s with it := 0 } | 3 => { s with ct := 0 } | 4 => { s with lf := 0 }
  | 5 => { s with id := 0 } | 6 => { s with lb := 0 } | 7 => { s with ky := 0 } | _ => s

/-- The word of a kind. -/
def wordL : Nat → List UInt8
  | 1 => [97, 115, 107] | 2 => [115, 101, 108, 108] | 3 => [104, 111, 108, 100] | 4 => [99, 111, 110, 102, 105, 114, 109]
  | 5 => [99, 97, 110, 99, 101, 108] | 6 => [114, 101, 102, 117, 110, 100] | 7 => [112, 117, 116] | 8 => [103, 101, 116]
  | 9 => [116, 105, 99, 107] | 10 => [100, 101, 108, 105, 118, 101, 114] | 11 => [108, 111, 115, 101] | _ => []
/-- The letters of a kind. -/
def lettL : Nat → List UInt8
  | 1 => [119, 105, 99] | 2 => [119, 105, 99] | 3 => [119, 105, 99, 116] | 4 => [119, 105, 110]
  | 5 => [119, 105, 110] | 6 => [119, 105, 99] | 7 => [119, 108, 107, 99] | 8 => [119, 108, 107]
  | 9 => [] | 10 => [110] | 11 => [110] | _ => []
/-- Of which field a letter is. -/
def fieldN (c : UInt8) : Nat :=
  if c = 119 then 1 else if c = 105 then 2 else if c = 99 then 3 else if c = 116 then 4 else if c = 110 then 5 else if c = 108 then 6 else if c = 107 then 7 else 0
/-- Letter by letter: the line grows, the step's field is taken out. -/
def runL : List UInt8 → Sp → List UInt8 → List UInt8 × Sp
  | [], s, acc => (acc, s)
  | c :: r, s, acc => runL r (s.out (fieldN c)) (acc ++ 32 :: Lib.itoa (s.at (fieldN c)))
def badK (s : Sp) : Bool := decide (s.kd < 1) || decide (11 < s.kd)
def ends (s : Sp) : List UInt8 × Sp := runL (lettL s.kd.toNat) s (wordL s.kd.toNat)
def left (s : Sp) : Bool := decide ((ends s).2 ≠ ⟨s.kd, 0, 0, 0, 0, 0, 0, 0⟩)
/-- What Show answers: the error .. -/
def shE (s : Sp) : Int := if badK s then 3 else if left s then 4 else 0
/-- .. and the line. -/
def shL (s : Sp) : List UInt8 := if badK s then [] else if left s then [] else (ends s).1

theorem out_kd (s : Sp) (i : Nat) : (s.out i).kd = s.kd := by
  unfold Sp.out; split <;> rfl
theorem runL_kd : ∀ (l : List UInt8) (s : Sp) (acc : List UInt8), (runL l s acc).2.kd = s.kd
  | [], _, _ => rfl
  | c :: r, s, acc => by rw [runL, runL_kd r, out_kd]
end Go.Proofs.YtaimgddhbkcikapDoor.Plain
