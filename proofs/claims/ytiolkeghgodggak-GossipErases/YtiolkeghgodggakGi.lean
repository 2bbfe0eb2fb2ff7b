/-
  The code of the last of some turns: plain; for GossipErases.
-/
import Derived.Test.YtiolkeghgodggakGh
namespace Go.Proofs.Ytiolkeghgodggak
namespace Plain
theorem code_last (n : Nat) (L : List Int) (s : Stt) (X R : List Tu) (a b : Tu) : (goF n L s ((X ++ [a, b]) ++ R)).getD (X.length + 1) 0 = tuE n L (stF n L s (X ++ [a])) b := by
  rw [show X ++ [a, b] = (X ++ [a]) ++ [b] by simp, goF_app, goF_app n L s (X ++ [a]) [b], List.getD_eq_getElem?_getD, List.append_assoc]
  rw [List.getElem?_append_right (by rw [goF_len]; simp), goF_len, show X.length + 1 - (X ++ [a]).length = 0 by simp]
  rfl
end Plain
end Go.Proofs.Ytiolkeghgodggak
