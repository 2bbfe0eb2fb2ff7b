/- Proved: for every slice of 64-bit integers the law LabOfs returns true: lab.Of answers what promise P1.3 says (the label of branches; ErrRange where one of the numbers is no branch, else ErrTwice where one is told twice), and the slice reads afterwards as it did. Conditions: none. -/
import Derived.Test.YtnmggnlndndbgaaRows
import Derived.WalkKit
import Derived.ProofKit
import Derived.OpenShut
import Derived.WalkSmall
import Derived.Test.YtnmggnlndndbgaaPlain
import Derived.Test.YtnmggnlndndbgaaCalls
import Derived.Test.YtnmggnlndndbgaaMem
import Derived.Test.YtnmggnlndndbgaaSame
import Derived.Test.YtnmggnlndndbgaaOfp
import Derived.Test.YtnmggnlndndbgaaOf
import Derived.Test.YtnmggnlndndbgaaOfr
import Derived.Test.YtnmggnlndndbgaaOfs
import Derived.ShutString
import Derived.ChangeOld
import Derived.Below
namespace Go.Proofs.Ytnmggnlndndbgaa
namespace labOfs
open Go.ChangeShapes Go.WideShapes Go.ChangeAt Go.RowKit
open Go.ChangeMaps (open_string shut_string)
set_option linter.unusedVariables false

theorem own : ownKnob Try.prog.godebug = none := by kernel_rfl
theorem laidOut : laidOutB Try.prog = true := by kernel_rfl

/-- WHAT THE WALK IS TOLD OF A SLICE OF INTEGERS THAT CAME IN: it is nil; or it leads to a row of 'cap' cells, the numbers 'zs' (the first 'len' are its elements, the rest its spare room), each fitting its kind. -/
def IsRow (k : IntKind) (w : World) (a : Option Addr) (len cap : Nat) (zs : List Int) : Prop :=
  (a = none ∧ len = 0 ∧ cap = 0 ∧ zs = []) ∨
  ∃ x, a = some x ∧ len ≤ cap ∧ cap ≤ maxLen ∧ zs.length = cap ∧ (∀ i, i < zs.length → w.cell? (x.add i) = some (.int k (zs.getD i 0))) ∧ ∀ n ∈ zs, (Lit.int k n).wf = true

theorem walk (a0 : Option Addr) (len0 cap0 : Nat) (z0 : List Int) (w : World) (w0 : IsRow .i64 w a0 len0 cap0 z0) :
    Calls Try.prog 8 #[.slice a0 len0 cap0] w fun e w' => e = .returned (.bool true) ∧ Below w.heap.size w w' := by
  obtain ⟨l, hl, hcap, hle, hseg⟩ : ∃ l : List Int, l.length = len0 ∧ l.length ≤ cap0 ∧ l.length ≤ 9223372036854775807 ∧
      (l = [] ∨ ∃ b off, a0 = some ⟨b, off, none⟩ ∧ b < w.heap.size ∧ ∀ j, j < l.length → w.cell? ⟨b, off + j, none⟩ = some (.int .i64 (l.getD j 0))) := by
    rcases w0 with ⟨rfl, rfl, rfl, rfl⟩ | ⟨x, rfl, hlc, hm, hz, hcell, _⟩
    · exact ⟨[], rfl, Nat.le_refl _, by decide, .inl rfl⟩
    · have hml : cap0 ≤ 9223372036854775807 := hm
      refine ⟨z0.take len0, by simp; omega, by simp; omega, by simp; omega, ?_⟩
      by_cases h0 : len0 = 0
      · left; rw [h0]; rfl
      · right
        obtain ⟨b, off, rfl, hc⟩ := ints_at hcell (by omega)
        refine ⟨b, off, rfl, ?_, fun j hj => ?_⟩
        · exact World.block_lt_of_cell? (w := w) (h := hc 0 (by omega))
        · have hj2 : j < len0 := by rw [List.length_take] at hj; omega
          rw [hc j (by omega)]
          simp [hj2]
  clear w0
  subst hl
  rcases hseg with rfl | ⟨b, off, rfl, hb, hc⟩
  · go_enter Try.func8, Try.ntmps8
    go_wp2_with fail
    refine (of_nil _ _ _).mono ?_
    rintro e w' ⟨rfl, rfl⟩
    unfold ofAns
    go_wp2_with fail
    refine (refOf_nil _ _ _).mono ?_
    rintro e w' ⟨rfl, hbel⟩
    unfold ofAns
    go_wp2
    go_ret
    exact ⟨rfl, hbel⟩
  · have HC : Hid _ := hc
    clear hc
    have key : (ofAns l = .tuple #[.int .i64 0, .int .i64 2]) ∨ (ofAns l = .tuple #[.int .i64 0, .int .i64 7]) ∨ (ofAns l = .tuple #[.int .i64 (Plain.labOf l l.length : Nat), .int .i64 0]) := by
      unfold ofAns
      split
      · split
        · exact .inr (.inl rfl)
        · exact .inr (.inr rfl)
      · exact .inl rfl
    obtain ⟨x, y, key⟩ : ∃ x y : Int, ofAns l = .tuple #[.int .i64 x, .int .i64 y] := by
      rcases key with e | e | e <;> exact ⟨_, _, e⟩
    have KEY : Hid _ := key
    clear key
    go_enter Try.func8, Try.ntmps8
    go_wp2_with fail
    refine (of_any b off cap0 l hle _ HC.out).mono ?_
    rintro e wx ⟨rfl, hx⟩
    have hy := hx.symm
    clear hx
    subst hy
    rw [KEY.out]
    go_wp2_with fail
    refine (refOf_any b off cap0 l hle hcap _ hb HC.out).mono ?_
    rintro e w' ⟨rfl, hbel⟩
    rw [KEY.out]
    go_wp2
    go_ret
    exact ⟨by simp, hbel⟩

set_option maxRecDepth 100000 in
theorem lifted (os : Os) (started : os.Started) (H : Type) (enc : TypeId × Value → H) :
    ReturnsInHanded {} Try.checked os 8 .any (Rows.labOfsSpec.pre6 enc Try.prog Try.f8 Rows.labOfsRow.domain false) (Rows.labOfsSpec.post enc Try.prog Try.f8 false true false false) := by
  refine returnsInHanded_of_change (C := Try.checked) own started (by kernel_rfl) Try.func8
    (ChangeSpec.witness6 (enc := enc) (C := Try.checked) false ⟨#[], #[.slice none 0 0], []⟩ 8 (by kernel_rfl) (by kernel_rfl) (by kernel_rfl) (by kernel_rfl)) ?_
  intro W base args ds gs before hval0 hW hcnd _
  have hval : ∀ (j : Nat) t v, Try.f8.params[j]? = some t → args[j]? = some v → Value.okWide Try.prog W .any base t v := hval0
  have hW' := hW
  obtain ⟨p, q, hA0, hV, rfl, hfz, hnd⟩ := hW
  have hA : DataW.TrodAll enc Try.prog W 0 (fun _ => true) true Try.f8.params.toList args.toList ds p := hA0
  rw [Try.params8] at hA hval
  obtain ⟨v0, vs0, d0, ds0, p0, q0, hargs, rfl, rfl, h0, r0⟩ := trodAll_cons hA
  obtain ⟨rfl, rfl, rfl⟩ := trodAll_nil r0
  obtain rfl : args = #[v0] := by cases args; simp_all
  obtain ⟨rfl, rfl⟩ := trodVars_none hV
  obtain ⟨a0, len0, cap0, rfl⟩ := okWide_slice Try.underlying29 (hval 0 29 v0 rfl rfl)
  have k0 := h0
  have lt0 : ∀ x ∈ p0, x.block < W.heap.size := by obtain ⟨m, hm⟩ := k0; exact DataW.trod_lt m _ _ _ hm
  obtain ⟨z0, w0⟩ : ∃ zs, IsRow .i64 W a0 len0 cap0 zs := by
    obtain ⟨fuel, hf⟩ := h0
    rcases open_ints Try.underlying29 Try.underlying3 (by kernel_rfl) hf with ⟨hcs, _⟩ | ⟨x, l, c, zs, hcs, _, hl, hm, hz, _, hcell, hwz⟩
    · simp [Value.cells] at hcs
      obtain ⟨rfl, rfl, rfl⟩ := hcs
      exact ⟨[], .inl ⟨rfl, rfl, rfl, rfl⟩⟩
    · simp [Value.cells] at hcs
      obtain ⟨rfl, rfl, rfl⟩ := hcs
      exact ⟨zs, .inr ⟨_, rfl, hl, hm, by simpa using hz, hcell, hwz⟩⟩
  clear hA0 hval0
  refine (walk a0 len0 cap0 z0 W w0).mono fun e W' ⟨he, bel⟩ => ?_
  subst he
  exact ⟨_, rfl, _, _, _, [], _, [], hW', trodAll_mk1 (shut_bool Try.underlying4 _), (trodAll_cons_mk (Below.trod laidOut (by kernel_rfl) (of_decide_eq_true (by kernel_rfl)) k0 bel lt0) trodAll_mk0), rfl, bel.frame _, fun h => by cases h⟩

theorem over : Rows.labOfsRow.holds Try.pinned (OpenSpec.ofChange Rows.labOfsSpec) :=
  OpenClaim.holds_of_wide 8 Try.f8 rfl rfl rfl rfl rfl rfl rfl ⟨rfl, rfl, rfl, rfl, rfl⟩ rfl rfl rfl rfl rfl (by kernel_rfl) Try.func8 (by kernel_rfl)
    (of_decide_eq_true (by kernel_rfl)) (by unfold Func.isWrapper; first | (rw [if_pos (by decide +kernel)]; kernel_rfl) | (rw [if_neg (by decide +kernel)]; exact ⟨rfl, rfl⟩))
    (fun os started H enc _ => lifted os started H enc)

end labOfs

theorem labOfs_holds : Rows.LabOfsSaid := labOfs.over
#print axioms labOfs_holds
end Go.Proofs.Ytnmggnlndndbgaa
