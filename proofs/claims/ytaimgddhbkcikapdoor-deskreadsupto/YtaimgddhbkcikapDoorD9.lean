/-
  From what the listed variables hold: the table of words, the library's table.
-/
import Derived.Test.YtaimgddhbkcikapDoorD3
import Derived.Test.YtaimgddhbkcikapDoorRows
import Derived.ProofKit
import Derived.LaidMore
import Derived.OpenShut
import Derived.Stop.Joined
import Derived.Stop.LaidErr
import Derived.Lib.LaidTab
import Derived.ChangeSame
namespace Go.Proofs.YtaimgddhbkcikapDoor
open Go Go.RowKit Go.ChangeShapes Go.WideShapes Go.ChangeAt Go.WideMaps Go.WideElems
open Plain
set_option maxRecDepth 100000

theorem gW : Tryd.prog.globalNamed "splittally/desk.wordings" = some 0 := by kernel_rfl
theorem tW : (Tryd.prog.globals[0]?).map (·.type) = some 35 := by kernel_rfl
theorem pow_data {H : Type} : (Rows.laid_internal_strconv_uint64pow10 : DataW H) = Lib.tabData .u64 Lib.pow10Tab := by kernel_rfl
theorem word_data {H : Type} : (Rows.laid_splittally_desk_wordings : DataW H) = .agg ((List.range 12).map fun k => .agg [.lit (.string (wordL k)), .lit (.string (lettL k))]) := by kernel_rfl
theorem tab_of {W : World} {rest : List (String × DataW Unit)} (h : laidMet Tryd.prog (("internal/strconv.uint64pow10", Rows.laid_internal_strconv_uint64pow10) :: rest) W) : Lib.TabIs Tryd.prog W "internal/strconv.uint64pow10" .u64 Lib.pow10Tab := by
  rw [pow_data] at h
  exact Lib.tabIs_of_head (g := 1) (t := 75) (e := 60) (n := 20) (by kernel_rfl) (by kernel_rfl) Tryd.underlying75 Tryd.underlying60 (by kernel_rfl) (by kernel_rfl) h
theorem bytes_of {s : ByteArray} {l : List UInt8} (h : s.data.toList = l) : Value.string s = bs l := by
  subst h
  rfl
theorem wd_of {W : World} {rest : List (String × DataW Unit)} (h : laidMet Tryd.prog (("splittally/desk.wordings", Rows.laid_splittally_desk_wordings) :: rest) W) : Wd W := by
  rw [word_data] at h
  obtain ⟨ps, ⟨g', t', cs, fuel, p, q, hg', ht', hvar, hd, _, _⟩, _⟩ := h
  obtain rfl := Option.some.inj (gW.symm.trans hg')
  obtain rfl := Option.some.inj (tW.symm.trans ht')
  obtain ⟨xs, m, _, hx, hlen, hn, hel⟩ := DataW.trod_array Tryd.underlying35 hd
  have c2 : Tryd.prog.cellsOf 34 = 2 := by kernel_rfl
  have c1 : Tryd.prog.cellsOf 9 = 1 := by kernel_rfl
  simp only [Prod.mk.injEq, DataW.agg.injEq] at hx
  intro k hk
  have hk' : k < xs.length := by omega
  have e1 : (xs[k]).1 = .agg [.lit (.string (wordL k)), .lit (.string (lettL k))] := by
    have := congrArg (fun l => l[k]?) hx.1
    simp [hk, hk'] at this
    exact this.symm
  have h1 := hel k hk
  rw [c2, List.getElem?_eq_getElem hk'] at h1
  obtain ⟨y0, y1, n, hy, hl2, t0, t1⟩ := trod_struct2 Tryd.underlying34 h1
  obtain ⟨s0, d0, z0, _⟩ := DataW.trod_string Tryd.underlying9 t0
  obtain ⟨s1, d1, z1, _⟩ := DataW.trod_string Tryd.underlying9 t1
  have e2 := e1
  rw [hy, z0, z1] at e2
  simp only [DataW.agg.injEq, List.cons.injEq, DataW.lit.injEq, Lit.string.injEq, and_true] at e2
  rw [show Tryd.prog.cellsOf _ = 1 from c1] at d0 d1
  have q0 : cs[k * 2]? = some (.string s0) := by
    have := congrArg (fun l => l[0]?) d0
    simpa using this
  have q1 : cs[k * 2 + 1]? = some (.string s1) := by
    have := congrArg (fun l => l[0]?) d1
    simpa using this
  have v0 := World.var?_cell hg' hvar (k * 2)
  have v1 := World.var?_cell hg' hvar (k * 2 + 1)
  refine ⟨?_, ?_⟩
  · rw [← bytes_of e2.1, v0]
    simpa using q0
  · rw [← bytes_of e2.2, v1]
    simpa using q1
theorem env_of {W : World} (hw : Wd W) (ht : Lib.TabIs Tryd.prog W "internal/strconv.uint64pow10" .u64 Lib.pow10Tab) : Env W.heap.size W := ⟨hw, hw.lt, Lib.tabBelow_of_tabIs ht, Nat.le_refl _⟩
theorem env4 {W : World} (h : laidMetH Tryd.prog Rows.deskShowsRow.laid W) : Env W.heap.size W := by
  rw [MakeChecks.laidMetH_plain _ _ _ (by kernel_rfl)] at h
  have h3 : laidMet Tryd.prog (("internal/strconv.uint64pow10", Rows.laid_internal_strconv_uint64pow10) :: [("splittally/desk.wordings", Rows.laid_splittally_desk_wordings)]) W := (laidMet.tail (laidMet.tail h))
  exact env_of (wd_of (laidMet.tail h3)) (tab_of h3)
end Go.Proofs.YtaimgddhbkcikapDoor
