/- Proved: for every two 64-bit integers the law MembersBack returns true: the members of a label are ascending branches, told in another order they make the label again, and with one told twice Of answers ErrTwice. Conditions: none. -/
import Derived.Test.YtnmggnlndndbgabRows
import Derived.WalkKit
import Derived.ProofKit
import Derived.OpenShut
import Derived.WalkSmall
import Derived.Test.YtnmggnlndndbgabPlain
import Derived.Test.YtnmggnlndndbgabLab
import Derived.Test.YtnmggnlndndbgabMem
import Derived.Test.YtnmggnlndndbgabOfp
import Derived.Test.YtnmggnlndndbgabOf
import Derived.Test.YtnmggnlndndbgabBackp
import Derived.Test.YtnmggnlndndbgabBackw
import Derived.Deep.QuietTactic
import Derived.BigQuiet
import Derived.ShutString
namespace Go.Proofs.Ytnmggnlndndbgab
namespace membersBack
open Go.ChangeShapes Go.WideShapes Go.ChangeAt Go.RowKit
open Go.ChangeMaps (open_string shut_string)
set_option linter.unusedVariables false      -- a walk need not use every 'w<i>' (that an integer argument fits its kind)

theorem own : ownKnob Try.prog.godebug = none := by kernel_rfl

set_option maxHeartbeats 4000000 in
theorem walk (a0 : Int) (a1 : Int) (w0 : (Lit.int .i64 a0).wf = true) (w1 : (Lit.int .i64 a1).wf = true) (w : World) :
    Calls Try.prog 5 #[.int .i64 a0, .int .i64 a1] w fun e w' => e = .returned (.bool true) ∧ Below w.heap.size w w' := by
  have hb0 := bounds_i64 w0
  clear w0 w1 hb0
  obtain ⟨x, hx, ex⟩ : ∃ x : Nat, x < 256 ∧ a0 % 256 = x := ⟨(a0 % 256).toNat, by omega, by omega⟩
  have EX : Hid _ := ex
  clear ex
  by_cases h0 : (Plain.ms x).length = 0
  · obtain rfl := Plain.zero_ms x hx h0
    clear h0
    have hmem : Plain.mem 0 8 = [] := by decide
    have A1 : Hid (ofAns [] = .tuple #[.int .i64 0, .int .i64 0]) := hid rfl
    go_enter Try.func5, Try.ntmps5
    go_wp2_with fail
    refine (picked a0 0 EX.out _).mono ?_
    rintro e wx ⟨rfl, hxx⟩
    have hyy := hxx.symm
    clear hxx
    subst hyy
    go_wp2_with fail
    refine (members_yes 0 hx _).mono ?_
    rintro e w1 ⟨v1, rfl, own1, bel1⟩
    rw [hmem] at own1
    obtain ⟨q1, c1, rfl⟩ : ∃ q1 c1, v1 = .slice q1 0 c1 := by
      rcases own1.2 with ⟨rfl, _⟩ | ⟨g, cap, cur, rfl, _⟩
      · exact ⟨none, 0, rfl⟩
      · exact ⟨_, cap, rfl⟩
    have BEL : Hid _ := bel1
    clear own1 bel1 hmem
    go_wp2
    refine wp_loop_rounds 1 ?_
    rw [rounds_succ]
    go_wp2_with fail
    refine (of_nil none 0 _).mono ?_
    rintro e wx ⟨rfl, hxx⟩
    have hyy := hxx.symm
    clear hxx
    subst hyy
    rw [A1.out]
    go_wp2_with fail
    refine (may_yes 0 (by decide) _).mono ?_
    rintro e wx ⟨rfl, hxx⟩
    have hyy := hxx.symm
    clear hxx
    subst hyy
    go_wp2
    go_ret
    exact ⟨by simp, BEL.out⟩
  · obtain ⟨p, hp, ep⟩ : ∃ p : Nat, p < (Plain.ms x).length ∧ a1 % ((Plain.ms x).length : Int) = p :=
      ⟨(a1 % ((Plain.ms x).length : Int)).toNat, by have := Int.emod_nonneg a1 (b := ((Plain.ms x).length : Int)) (by omega); have := Int.emod_lt_of_pos a1 (b := ((Plain.ms x).length : Int)) (by omega); omega, by have := Int.emod_nonneg a1 (b := ((Plain.ms x).length : Int)) (by omega); omega⟩
    have hle := Plain.ms_le x
    have ASC : Hid (∀ i, i < (Plain.ms x).length → _) := fun i hi => Plain.asc_at (Plain.ms x) _ i (Plain.all_asc x hx) hi
    have BACK : Hid _ := Plain.back_all x p hx hp
    have EP : Hid _ := ep
    clear ep
    go_enter Try.func5, Try.ntmps5
    go_wp2_with fail
    refine (picked a0 x EX.out _).mono ?_
    rintro e wx ⟨rfl, hxx⟩
    have hyy := hxx.symm
    clear hxx
    subst hyy
    go_wp2_with fail
    refine (members_yes x hx _).mono ?_
    rintro e w1 ⟨v1, rfl, own1, bel1⟩
    have hmap : (Plain.mem x 8).map (fun j : Nat => Value.int .i64 j) = (Plain.ms x).map (Value.int .i64) := by simp [Plain.ms]
    have hlen : (Plain.mem x 8).length = (Plain.ms x).length := by simp [Plain.ms]
    rw [hmap, hlen] at own1
    have hblk := own1.lt
    have hseg := seg_of_owns own1 rfl rfl
    clear hmap hlen own1
    generalize hms : Plain.ms x = l at *
    rcases hseg with ⟨rfl, _⟩ | ⟨g, off, cap, rfl, hc⟩
    · exact absurd rfl h0
    have hg : g < w1.heap.size := (hblk g rfl).2
    clear hblk hms
    have HC : Hid _ := hc
    clear hc
    have BEL : Hid _ := bel1
    clear bel1
    have hd8 : decide (8 < (l.length : Int)) = false := by simp; omega
    have hpos : 0 < l.length := by omega
    clear h0
    obtain ⟨i0, hi, hz0, hz1, hz2⟩ := info_parts Try.info3
    go_wp2
    go_loopw [8, 9] (fun v i wr => ∃ k : Nat, k ≤ l.length ∧ i = .int .i64 k ∧ wr.ownsRow w1.heap.size 3 1 v k ((Plain.oth l p k).map (Value.int .i64)) ∧ Hid (Below w1.heap.size w1 wr) ∧ Hid (k = 0 → v = .slice none 0 0))
      (fun _ i _ => l.length - (intOf i).toNat)
    case atStart => exact ⟨0, Nat.zero_le _, rfl, World.ownsRow_nil _ _ _ _, hid (Below.refl _ _), hid (fun _ => rfl)⟩
    case round =>
      obtain ⟨k, hk, rfl, hown, HW, HN⟩ := hrel
      by_cases hlt : k < l.length
      · have hlt' : (k : Int) < (l.length : Int) := by omega
        have HCr : Hid (∀ j, j < l.length → wr.cell? ⟨g, off + j, none⟩ = some (.int .i64 (l.getD j 0))) :=
          hid (fun j hj => (HW.out.cell (p := ⟨g, off + j, none⟩) hg).trans (HC.out j hj))
        cases k with
        | zero =>
          obtain ⟨y, hy⟩ : ∃ y, y = l.getD 0 0 := ⟨_, rfl⟩
          obtain ⟨y0, y7, _⟩ := ASC.out 0 hlt
          have g1 : wr.cell? ⟨g, off, none⟩ = some (.int .i64 (l.getD 0 0)) := HCr.out 0 hlt
          rw [← hy] at y0 y7 g1
          have d0 : decide (y < 0) = false := by simp; omega
          have d7 : decide (7 < y) = false := by simp; omega
          obtain ⟨u, hu⟩ : ∃ u, u = l.getD (p % l.length) 0 := ⟨_, rfl⟩
          have g3 := HCr.out (p % l.length) (Nat.mod_lt _ hpos)
          rw [← hu] at g3
          have HO : Hid (Plain.oth l p (0 + 1) = [u]) := hid (by rw [hu]; simp [Plain.oth])
          have r1 : 0 ≤ (p : Int) % (l.length : Int) := Int.emod_nonneg _ (by omega)
          have r2 : (p : Int) % (l.length : Int) < (l.length : Int) := Int.emod_lt_of_pos _ (by omega)
          obtain rfl := HN.out rfl
          clear hy hu
          go_wp2
          go_quiet (fail)
          go_wp2_with fail
          refine (pickedn a1 l.length p (by omega) hle EP.out _).mono ?_
          rintro e w' ⟨rfl, rfl⟩
          have OWN : Hid ((wr.alloc (.cells #[.int .i64 u] 3)).ownsRow w1.heap.size 3 1 (.slice (some ⟨wr.heap.size, 0, none⟩) 1 1) 1 [.int .i64 u]) := hid (owns_one wr _ HW.out.size _)
          go_wp2_with (first
            | (at_builtin; refine wpList_append_own_none rfl _ _ 29 rfl w1.heap.size 3 i0 1 Try.underlying29 hi _ _ _ rfl (by exact OWN.out) rfl ?_)
            | go_in)
          go_roundw
          case rel => exact ⟨0 + 1, by omega, rfl, by rw [HO.out]; exact OWN.out, hid (below_drewN (HW.out.alloc HW.out.size _) _), hid (fun h => by omega)⟩
          case measure => simp [intOf]; omega
        | succ k =>
          obtain ⟨y, hy⟩ : ∃ y, y = l.getD (k + 1) 0 := ⟨_, rfl⟩
          obtain ⟨z, hz⟩ : ∃ z, z = l.getD k 0 := ⟨_, rfl⟩
          obtain ⟨y0, y7, yz⟩ := ASC.out (k + 1) hlt
          have g1 : wr.cell? ⟨g, off + (k + 1), none⟩ = some (.int .i64 (l.getD (k + 1) 0)) := HCr.out (k + 1) hlt
          have g2 : wr.cell? ⟨g, off + k, none⟩ = some (.int .i64 (l.getD k 0)) := HCr.out k (by omega)
          rw [Nat.add_sub_cancel] at yz
          rw [← hy] at y0 y7 yz g1
          rw [← hz] at yz g2
          have d0 : decide (y < 0) = false := by simp; omega
          have d7 : decide (7 < y) = false := by simp; omega
          have dz : decide (y ≤ z) = false := by simp; omega
          obtain ⟨u, hu⟩ : ∃ u, u = l.getD ((k + 1 + p) % l.length) 0 := ⟨_, rfl⟩
          have g3 := HCr.out ((k + 1 + p) % l.length) (Nat.mod_lt _ hpos)
          rw [← hu] at g3
          have HO : Hid (Plain.oth l p (k + 1 + 1) = u :: Plain.oth l p (k + 1)) := hid (by rw [hu]; simp [Plain.oth])
          have r1 : 0 ≤ ((k : Int) + 1 + p) % (l.length : Int) := Int.emod_nonneg _ (by omega)
          have r2 : ((k : Int) + 1 + p) % (l.length : Int) < (l.length : Int) := Int.emod_lt_of_pos _ (by omega)
          clear hy hz yz hu
          obtain ⟨g', cap', rfl, hbg, hgl⟩ := other_parts hown
          have HN' : Hid _ := hown
          clear hown
          have OWN : Hid ((wr.alloc (.cells #[.int .i64 u] 3)).ownsRow w1.heap.size 3 1 (.slice (some ⟨wr.heap.size, 0, none⟩) 1 1) 1 [.int .i64 u]) := hid (owns_one wr _ HW.out.size _)
          go_wp2
          go_quiet (fail)
          go_wp2_with fail
          refine (pickedn a1 l.length p (by omega) hle EP.out _).mono ?_
          rintro e w' ⟨rfl, rfl⟩
          go_wp2_with (first
            | (at_builtin; refine wpList_append_own _ rfl _ _ 29 rfl w1.heap.size 3 i0 (.int .i64 0) 1 8 Try.underlying29 hi hz0 hz1 hz2 rfl (by decide) _ _ _ rfl (by exact OWN.out) ⟨g', 0, none⟩ (k + 1) cap' ((Plain.oth l p (k + 1)).map (Value.int .i64)) rfl ?c0 ?c1 ?c2 ?c3 ?c4 ?c5 ?_)
            | go_in)
          case c0 => simp [Plain.oth_length]
          case c1 => exact other_news _ HN'.out
          case c2 => exact one_cell _
          case c3 => unfold maxLen; omega
          case c4 => omega
          case c5 => have := HW.out.size; simp; omega
          intro v' w2 hown' hgrow _
          have R1 : Hid (w2.ownsRow w1.heap.size 3 1 v' (k + 1 + 1) ((Plain.oth l p (k + 1 + 1)).map (Value.int .i64))) := hid (by rw [HO.out, show k + 1 + 1 = 1 + (k + 1) by omega]; exact hown')
          have R2 : Hid (Below w1.heap.size w1 w2) := hid ((below_drewN (HW.out.alloc HW.out.size _) _).grown hgrow (by have := HW.out.size; simp; omega) (fun j hj => by cases hj; exact HW.out.size))
          clear hown' hgrow
          go_wp2
          go_roundw
          case rel => first | exact ⟨k + 1 + 1, by omega, by go_num, R1.out, R2, hid (fun h => by omega)⟩ | ((repeat apply Exists.intro); exact ⟨⟨k + 1 + 1, by omega, by go_num, R1.out, R2, hid (fun h => by omega)⟩, rfl⟩)
          case measure => simp [intOf]; omega
      · have hkl : k = l.length := by omega
        subst hkl
        have hol : (Plain.oth l p l.length).length = l.length := Plain.oth_length l p l.length
        have A1 : Hid (ofAns (Plain.oth l p l.length) = .tuple #[.int .i64 (x : Nat), .int .i64 0]) := hid (by
          obtain ⟨b1, b2, b3, _, _⟩ := BACK.out
          rw [ofAns_yes (by rw [hol]; exact b1) (by rw [hol]; exact b2), hol, b3])
        have A2 : Hid (ofAns (Plain.oth l p l.length ++ [l.getD 0 0]) = .tuple #[.int .i64 0, .int .i64 7]) := hid (by
          obtain ⟨_, _, _, b4, b5⟩ := BACK.out
          have hl2 : (Plain.oth l p l.length ++ [l.getD 0 0]).length = l.length + 1 := by simp [hol]
          exact ofAns_twice (by rw [hl2]; exact b4) (by rw [hl2]; exact b5))
        have SEG : Hid (Seg wr u8 (Plain.oth l p l.length)) := hid (seg_of_owns hown hol.symm rfl)
        have HL : Hid ((Plain.oth l p l.length).length = l.length) := hol
        clear hol
        obtain ⟨y, hy⟩ : ∃ y, y = l.getD 0 0 := ⟨_, rfl⟩
        have g1 : wr.cell? ⟨g, off, none⟩ = some (.int .i64 (l.getD 0 0)) := (HW.out.cell (p := ⟨g, off, none⟩) hg).trans (HC.out 0 hpos)
        rw [← hy] at A2 g1
        clear hy
        have hn0 : ((l.length : Int) == 0) = false := beq_eq_false_iff_ne.2 (by omega)
        have OWN : Hid (wr.ownsRow w1.heap.size 3 1 u8 l.length ((Plain.oth l p l.length).map (Value.int .i64))) := hown
        clear hown
        go_wp2_with fail
        refine (of_seg u8 (Plain.oth l p l.length) (by rw [HL.out]; omega) _ SEG.out).mono ?_
        rintro e wx ⟨rfl, hxx⟩
        have hyy := hxx.symm
        clear hxx
        subst hyy
        rw [A1.out]
        go_wp2_with (first
          | (at_builtin; refine wpList_append_own _ rfl _ _ 29 rfl w1.heap.size 3 i0 (.int .i64 0) 1 8 Try.underlying29 hi hz0 hz1 hz2 rfl (by decide) _ _ _ rfl (World.ownsRow.alloc OWN.out _) ⟨wr.heap.size, 0, none⟩ 1 1 [.int .i64 y] rfl rfl ?c1 ?c2 ?c3 ?c4 ?c5 ?_)
          | fail)
        case c1 =>
          intro j u hj
          match j, hj with
          | 0, hj => simp at hj; subst hj; simp [Addr.add]
        case c2 => intro u hu; simp at hu; subst hu; rfl
        case c3 => unfold maxLen; omega
        case c4 => omega
        case c5 => have := HW.out.size; simp; omega
        intro v' w2 hown' hgrow _
        have R1 : Hid (Seg w2 v' (Plain.oth l p l.length ++ [y])) := hid (seg_of_owns hown' (by simp [HL.out]) (by simp))
        have R2 : Hid (Below w1.heap.size w1 w2) := hid ((HW.out.alloc HW.out.size _).grown hgrow (by have := HW.out.size; simp; omega) (fun j hj => (World.ownsRow.lt OWN.out j hj).1))
        clear hown' hgrow
        go_wp2_with fail
        refine (of_seg v' (Plain.oth l p l.length ++ [y]) (by simp [HL.out]; omega) _ R1.out).mono ?_
        rintro e wx ⟨rfl, hxx⟩
        have hyy := hxx.symm
        clear hxx
        subst hyy
        rw [A2.out]
        go_wp2
        go_ret
        exact ⟨rfl, BEL.out.trans (R2.out.mono BEL.out.size)⟩

set_option maxRecDepth 100000 in
theorem lifted (os : Os) (started : os.Started) (H : Type) (enc : TypeId × Value → H) :
    ReturnsInHanded {} Try.checked os 5 .any (Rows.membersBackSpec.pre6 enc Try.prog Try.f5 Rows.membersBackRow.domain false) (Rows.membersBackSpec.post enc Try.prog Try.f5 false true false false) := by
  refine returnsInHanded_of_change (C := Try.checked) own started (by kernel_rfl) Try.func5
    (ChangeSpec.witness6 (enc := enc) (C := Try.checked) false ⟨#[], #[.int .i64 0, .int .i64 0], []⟩ 8 (by kernel_rfl) (by kernel_rfl) (by kernel_rfl) (by kernel_rfl)) ?_
  intro W base args ds gs before hval0 hW hcnd _
  have hval : ∀ (j : Nat) t v, Try.f5.params[j]? = some t → args[j]? = some v → Value.okWide Try.prog W .any base t v := hval0
  have hW' := hW
  obtain ⟨p, q, hA0, hV, rfl, hfz, hnd⟩ := hW
  have hA : DataW.TrodAll enc Try.prog W 0 (fun _ => true) true Try.f5.params.toList args.toList ds p := hA0
  rw [Try.params5] at hA hval
  obtain ⟨v0, vs0, d0, ds0, p0, q0, hargs, rfl, rfl, h0, r0⟩ := trodAll_cons hA
  obtain ⟨v1, vs1, d1, ds1, p1, q1, rfl, rfl, rfl, h1, r1⟩ := trodAll_cons r0
  obtain ⟨rfl, rfl, rfl⟩ := trodAll_nil r1
  obtain rfl : args = #[v0, v1] := by cases args; simp_all
  obtain ⟨rfl, rfl⟩ := trodVars_none hV
  obtain ⟨a0, rfl, rfl, rfl, w0⟩ := open_int Try.underlying3 (hval 0 3 v0 rfl rfl) h0
  obtain ⟨a1, rfl, rfl, rfl, w1⟩ := open_int Try.underlying3 (hval 1 3 v1 rfl rfl) h1
  clear hA0 hval0
  refine (walk a0 a1 w0 w1 W).mono fun e W' ⟨he, bel⟩ => ?_
  subst he
  exact ⟨_, rfl, _, _, _, [], _, [], hW', trodAll_mk1 (shut_bool Try.underlying4 _), (trodAll_cons_mk (shut_int Try.underlying3 w0) (trodAll_cons_mk (shut_int Try.underlying3 w1) trodAll_mk0)), rfl, bel.frame _, fun h => by cases h⟩

theorem over : Rows.membersBackRow.holds Try.pinned (OpenSpec.ofChange Rows.membersBackSpec) :=
  OpenClaim.holds_of_wide 5 Try.f5 rfl rfl rfl rfl rfl rfl rfl ⟨rfl, rfl, rfl, rfl, rfl⟩ rfl rfl rfl rfl rfl (by kernel_rfl) Try.func5 (by kernel_rfl)
    (of_decide_eq_true (by kernel_rfl)) (by unfold Func.isWrapper; first | (rw [if_pos (by decide +kernel)]; kernel_rfl) | (rw [if_neg (by decide +kernel)]; exact ⟨rfl, rfl⟩))
    (fun os started H enc _ => lifted os started H enc)

end membersBack

theorem membersBack_holds : Rows.MembersBackSaid := membersBack.over
#print axioms membersBack_holds
end Go.Proofs.Ytnmggnlndndbgab
