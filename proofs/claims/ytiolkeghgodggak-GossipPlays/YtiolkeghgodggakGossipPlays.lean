/- GossipPlays: of whatever number of branches, labels and turns gossip.Play and the document's GossipPlayed tell the same: the error, the codes turn by turn, and what each branch has of each label. No condition. -/
import Derived.Test.YtiolkeghgodggakRows
import Derived.WalkKit
import Derived.ProofKit
import Derived.OpenShut
import Derived.WalkSmall
import Derived.ShutString
import Derived.ChangeOld
import Derived.Below
import Derived.Test.YtiolkeghgodggakRsc
import Derived.Test.YtiolkeghgodggakSsd
namespace Go.Proofs.Ytiolkeghgodggak
namespace gossipPlays
open Go.ChangeShapes Go.WideShapes Go.ChangeAt Go.RowKit
set_option linter.unusedVariables false

theorem own : ownKnob Try.prog.godebug = none := by kernel_rfl
theorem laidOut : laidOutB Try.prog = true := by kernel_rfl

theorem ints_seg {H : Type} {enc : TypeId × Value → H} {W : World} {d : DataW H} {p : List MemPlace} {a : Option Addr} {len cap : Nat} (h : DataW.Trod enc Try.prog W 0 (fun _ => true) true 22 (.slice a len cap) d p) :
    ∃ l : List Int, l.length = len ∧ len ≤ cap ∧ cap ≤ 9223372036854775807 ∧ (∀ n ∈ l, (Lit.int .i64 n).wf = true) ∧ Lies W.heap.size (.slice a len cap) ∧ Seg W (.slice a len cap) l := by
  obtain ⟨fuel, hf⟩ := h
  rcases open_ints Try.underlying22 Try.underlying3 (by kernel_rfl) hf with ⟨hcs, _⟩ | ⟨x, l, c, zs, hcs, _, hl, hm, hz, _, hcell, hwz⟩
  · simp [Value.cells] at hcs
    obtain ⟨rfl, rfl, rfl⟩ := hcs
    exact row_seg (zs := []) (.inl ⟨rfl, rfl, rfl, rfl⟩)
  · simp [Value.cells] at hcs
    obtain ⟨rfl, rfl, rfl⟩ := hcs
    exact row_seg (.inr ⟨_, rfl, hl, hm, by simpa using hz, hcell, hwz⟩)

set_option maxHeartbeats 4000000 in
set_option maxRecDepth 100000 in
theorem walk (w : World) (a0 : Int) (w0 : -9223372036854775808 ≤ a0 ∧ a0 ≤ 9223372036854775807) (v1 : Value) (l1 : List Int) (hm1 : l1.length ≤ 9223372036854775807) (hr1 : ∀ n ∈ l1, (Lit.int .i64 n).wf = true) (s1 : Seg w v1 l1) (y1 : Lies w.heap.size v1) (v2 : Value) (l2 : List Plain.Tu) (s2 : SegT w v2 l2) (r2 : ∀ j, j < l2.length → InT (l2.getD j default)) :
    Calls Try.prog 3 #[.int .i64 a0, v1, v2] w fun e w' => e = .returned (.bool true) ∧ Below w.heap.size w w' := by
  obtain ⟨p1, c1, rfl, NM1⟩ := ints_nums s1 y1
  obtain ⟨hb2, p2, c2, rfl, HT2⟩ := s2
  have K1 := play_c p1 l1.length c1 p2 l2.length c2 a0 l1 l2 hm1 hb2 rfl rfl (ints_bounds hr1) w NM1 HT2
  have K2 := fun W (g : Below w.heap.size w W) => rplay_c p1 l1.length c1 p2 l2.length c2 a0 l1 l2 hm1 hb2 rfl rfl (ints_bounds hr1) W (NM1.grow g) (HT2.grow g)
  clear NM1 HT2 s1 y1 r2 hr1
  have KC := fun W p p' c c' h1 h2 => codes_any a0 l1 l2 p p' c c' W h1 h2
  have KS := fun W q q' d d' h1 h2 => stores_any a0 l1 l2 q q' d d' W h1 h2
  have HKC := hid KC
  have HKS := hid KS
  clear KC KS
  go_enter Try.func3, Try.ntmps3
  go_wp2_with fail
  refine K1.mono ?_
  intro e W1 h1
  obtain ⟨pa, ca, qa, da, rfl, hn1, hs1, hb1⟩ := h1
  have N1 := hid hn1
  have S1 := hid hs1
  have B1 := hid hb1
  clear hn1 hs1 hb1 K1
  go_wp2_with fail
  refine (K2 _ B1.out).mono ?_
  intro e W2 h2
  obtain ⟨pb, cb, qb, db, rfl, hn2, hs2, hb2'⟩ := h2
  have N12 := hid (N1.out.grow hb2')
  have S12 := hid (S1.out.grow hb2')
  have N2 := hid hn2
  have S2 := hid hs2
  have B2 := hid (B1.out.trans (hb2'.mono B1.out.size))
  have KC := HKC.out W2 pa pb ca cb N12.out N2.out
  have KS := fun t => HKS.out (W2.drewN t) qa qb da db (S12.out.grow (below_drewN (Below.refl _ _) t)) (S2.out.grow (below_drewN (Below.refl _ _) t))
  clear K2 hn2 hs2 hb2' N1 S1 B1 N12 S12 N2 S2 HKC HKS
  generalize (Plain.codesV a0 l1 l2).length = nc at *
  generalize Plain.cntV a0 l1 l2 = ns at *
  generalize Plain.goE a0 l1 l2 = E at *
  go_wp2_with fail
  refine KC.mono ?_
  rintro e W3 ⟨rfl, q, hq⟩
  subst hq
  clear KC
  go_wp2_with fail
  refine (KS q).mono ?_
  rintro e W4 ⟨rfl, q', hq⟩
  subst hq
  clear KS
  have F := hid (below_drewN B2.out (q + q'))
  go_wp2
  go_ret
  exact ⟨by simp, by simpa using F.out⟩

set_option maxRecDepth 100000 in
theorem lifted (os : Os) (started : os.Started) (H : Type) (enc : TypeId × Value → H) :
    ReturnsInHanded {} Try.checked os 3 .any (Rows.gossipPlaysSpec.pre6 enc Try.prog Try.f3 Rows.gossipPlaysRow.domain false) (Rows.gossipPlaysSpec.post enc Try.prog Try.f3 false true false false) := by
  refine returnsInHanded_of_change (C := Try.checked) own started (by kernel_rfl) Try.func3
    (ChangeSpec.witness6 (enc := enc) (C := Try.checked) false ⟨#[], #[.int .i64 0, .slice none 0 0, .slice none 0 0], []⟩ 8 (by kernel_rfl) (by kernel_rfl) (by kernel_rfl) (by kernel_rfl)) ?_
  intro W base args ds gs before hval0 hW hcnd _
  have hval : ∀ (j : Nat) t v, Try.f3.params[j]? = some t → args[j]? = some v → Value.okWide Try.prog W .any base t v := hval0
  have hW' := hW
  obtain ⟨p, q, hA0, hV, rfl, hfz, hnd⟩ := hW
  have hA : DataW.TrodAll enc Try.prog W 0 (fun _ => true) true Try.f3.params.toList args.toList ds p := hA0
  rw [Try.params3] at hA hval
  obtain ⟨v0, vs0, d0, ds0, p0, q0, hargs, rfl, rfl, h0, r0⟩ := trodAll_cons hA
  obtain ⟨v1, vs1, d1, ds1, p1, q1, rfl, rfl, rfl, h1, r1⟩ := trodAll_cons r0
  obtain ⟨v2, vs2, d2, ds2, p2, q2, rfl, rfl, rfl, h2, r2⟩ := trodAll_cons r1
  obtain ⟨rfl, rfl, rfl⟩ := trodAll_nil r2
  obtain rfl : args = #[v0, v1, v2] := by cases args; simp_all
  obtain ⟨rfl, rfl⟩ := trodVars_none hV
  have k0 := h0
  have lt0 : ∀ x ∈ p0, x.block < W.heap.size := by obtain ⟨m, hm⟩ := k0; exact DataW.trod_lt m _ _ _ hm
  obtain ⟨a0, rfl, _, _, w0⟩ := open_int Try.underlying3 (hval 0 3 v0 rfl rfl) h0
  obtain ⟨a1, len1, cap1, rfl⟩ := okWide_slice Try.underlying22 (hval 1 22 v1 rfl rfl)
  have k1 := h1
  have lt1 : ∀ x ∈ p1, x.block < W.heap.size := by obtain ⟨m, hm⟩ := k1; exact DataW.trod_lt m _ _ _ hm
  obtain ⟨l1, hl1, hc1, hm1, hr1, y1, s1⟩ := ints_seg h1
  obtain ⟨a2, len2, cap2, rfl⟩ := okWide_slice Try.underlying23 (hval 2 23 v2 rfl rfl)
  have k2 := h2
  have lt2 : ∀ x ∈ p2, x.block < W.heap.size := by obtain ⟨m, hm⟩ := k2; exact DataW.trod_lt m _ _ _ hm
  obtain ⟨l2, s2, ri2⟩ := tus_open Try.underlying23 Try.underlying44 (by kernel_rfl) ⟨rfl, by intro j f hj; rcases j with _ | _ | _ | _ | _ | _ | j <;> simp at hj <;> subst hj <;> exact ⟨rfl, by kernel_rfl, Try.underlying3⟩⟩ h2
  clear hA0 hval0
  refine (walk W a0 (bounds_i64 w0) _ l1 (by omega) hr1 s1 y1 _ l2 s2 ri2).mono fun e W' ⟨he, bel⟩ => ?_
  subst he
  exact ⟨_, rfl, _, _, _, [], _, [], hW', trodAll_mk1 (shut_bool Try.underlying4 _), (trodAll_cons_mk (Below.trod laidOut (by kernel_rfl) (of_decide_eq_true (by kernel_rfl)) k0 bel lt0) (trodAll_cons_mk (Below.trod laidOut (by kernel_rfl) (of_decide_eq_true (by kernel_rfl)) k1 bel lt1) (trodAll_cons_mk (Below.trod laidOut (by kernel_rfl) (of_decide_eq_true (by kernel_rfl)) k2 bel lt2) trodAll_mk0))), rfl, bel.frame _, fun h => by cases h⟩

theorem over : Rows.gossipPlaysRow.holds Try.pinned (OpenSpec.ofChange Rows.gossipPlaysSpec) :=
  OpenClaim.holds_of_wide 3 Try.f3 rfl rfl rfl rfl rfl rfl rfl ⟨rfl, rfl, rfl, rfl, rfl⟩ rfl rfl rfl rfl rfl (by kernel_rfl) Try.func3 (by kernel_rfl)
    (of_decide_eq_true (by kernel_rfl)) (by unfold Func.isWrapper; first | (rw [if_pos (by decide +kernel)]; kernel_rfl) | (rw [if_neg (by decide +kernel)]; exact ⟨rfl, rfl⟩))
    (fun os started H enc _ => lifted os started H enc)

end gossipPlays

theorem gossipPlays_holds : Rows.GossipPlaysSaid := gossipPlays.over
#print axioms gossipPlays_holds
end Go.Proofs.Ytiolkeghgodggak
