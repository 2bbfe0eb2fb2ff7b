/-
  From what the listed variables hold, for Read; one line read.
-/
import Derived.Test.YtaimgddhbkcikapDoorDE
import Derived.Test.YtaimgddhbkcikapDoorD7
namespace Go.Proofs.YtaimgddhbkcikapDoor
open Go Go.RowKit Go.ChangeShapes Go.WideShapes Go.ChangeAt Go.WideMaps Go.WideElems
open Plain
set_option maxRecDepth 100000

theorem star_name : "*" ++ "errors.errorString" = "*errors.errorString" := by decide
theorem row_err (u : TypeId) (h : Tryd.prog.typeName? 3 u = some "*errors.errorString") : u = 93 :=
  typeName_ptr_named (nm := "errors.errorString") (by rw [star_name]; kernel_rfl) (by kernel_rfl) (by decide) u (by rw [star_name]; exact h)
theorem err_of {W : World} {n : String} {text : List UInt8} {rest : List (String × DataW Unit)} {g : Nat} (hg : Tryd.prog.globalNamed n = some g) (ht : (Tryd.prog.globals[g]?).map (·.type) = some 54)
    (h : laidMet Tryd.prog ((n, .iface "*errors.errorString" (.ptr (.agg [.lit (.string text)]))) :: rest) W) : ErrB W.heap.size W n := by
  obtain ⟨a, s, hv, _⟩ := laid_sentinel h hg ht Tryd.underlying54 row_err Tryd.underlying93 Tryd.underlying95 rfl rfl Tryd.underlying9 (by kernel_rfl) (by kernel_rfl)
  exact errB_of hv
theorem env6 {W : World} {L : List (String × DataW Unit)} (hL : L = [("math/bits.deBruijn32tab", Rows.laid_math_bits_deBruijn32tab), ("math/bits.deBruijn64tab", Rows.laid_math_bits_deBruijn64tab), ("internal/strconv.uint64pow10", Rows.laid_internal_strconv_uint64pow10), ("strconv.ErrRange", Rows.laid_strconv_ErrRange), ("strconv.ErrSyntax", Rows.laid_strconv_ErrSyntax), ("splittally/desk.wordings", Rows.laid_splittally_desk_wordings)]) (h : laidMetH Tryd.prog L W) : EnvR W.heap.size W := by
  subst hL
  rw [MakeChecks.laidMetH_plain _ _ _ (by kernel_rfl)] at h
  have h3 := laidMet.tail (laidMet.tail h)
  have h4 := laidMet.tail h3
  have h5 := laidMet.tail h4
  have h6 := laidMet.tail h5
  exact ⟨env_of (wd_of h6) (tab_of h3), err_of (g := 3) (by kernel_rfl) (by kernel_rfl) h5, err_of (g := 4) (by kernel_rfl) (by kernel_rfl) h4⟩
theorem env6f {W : World} (h : laidMetH Tryd.prog Rows.lineFixedRow.laid W) : EnvR W.heap.size W := env6 rfl h
theorem env6b {W : World} (h : laidMetH Tryd.prog Rows.lineBackRow.laid W) : EnvR W.heap.size W := env6 rfl h
theorem env6r {W : World} (h : laidMetH Tryd.prog Rows.deskReadsUptoRow.laid W) : EnvR W.heap.size W := env6 rfl h
/-- hold 1 0 -7 3 -/
def holdL : List UInt8 := [104, 111, 108, 100, 32, 49, 32, 48, 32, 45, 55, 32, 51]
theorem itoa_small {n : Nat} (h : n < 10) : Lib.itoa (n : Int) = [UInt8.ofNat (48 + n)] := by
  unfold Lib.itoa
  rw [if_neg (by omega), Int.toNat_natCast, Lib.decDigits_one h]
theorem hold_guess : guessP holdL = ⟨3, 1, 0, -7, 3, 0, 0, 0⟩ := by decide +kernel
theorem hold_reads : reads holdL = true := by
  have h1 : shE ⟨3, 1, 0, -7, 3, 0, 0, 0⟩ = 0 := by rw [shE_doc]; decide +kernel
  have i1 : Lib.itoa 1 = [49] := itoa_small (n := 1) (by omega)
  have i0 : Lib.itoa 0 = [48] := itoa_small (n := 0) (by omega)
  have i3 : Lib.itoa 3 = [51] := itoa_small (n := 3) (by omega)
  have i7 : Lib.itoa (-7) = [45, 55] := by
    unfold Lib.itoa
    rw [if_pos (by omega)]
    rw [show (-7 : Int).natAbs = 7 from rfl, Lib.decDigits_one (by omega)]
    rfl
  have h2 : shL ⟨3, 1, 0, -7, 3, 0, 0, 0⟩ = holdL := by
    rw [shL_doc]
    have hk : kindN ⟨3, 1, 0, -7, 3, 0, 0, 0⟩ = 3 := by decide +kernel
    rw [hk]
    simp [restK, numsK, flN, i0, i1, i3, i7, wordL, holdL]
  unfold reads
  rw [hold_guess, h1, h2]
  simp
theorem hold_rd : rdS holdL = ⟨3, 1, 0, -7, 3, 0, 0, 0⟩ ∧ rdE holdL = 0 := by
  unfold rdS rdE
  rw [hold_reads, hold_guess]
  exact ⟨rfl, rfl⟩
theorem reads_show {l : List UInt8} (h : reads l = true) : shE (rdS l) = 0 ∧ shL (rdS l) = l ∧ rdE l = 0 := by
  unfold rdS rdE
  rw [h]
  unfold reads at h
  rw [Bool.and_eq_true, decide_eq_true_eq, decide_eq_true_eq] at h
  exact ⟨h.1, h.2, rfl⟩
theorem not_reads {l : List UInt8} (h : reads l = false) : rdS l = ⟨0, 0, 0, 0, 0, 0, 0, 0⟩ ∧ rdE l = 4 := by
  unfold rdS rdE
  rw [h]
  exact ⟨rfl, rfl⟩
theorem rdS_in (l : List UInt8) : InSp (rdS l) := by
  unfold rdS
  split
  · exact guessP_in l
  · exact zero_in (by unfold In64; omega)
end Go.Proofs.YtaimgddhbkcikapDoor
